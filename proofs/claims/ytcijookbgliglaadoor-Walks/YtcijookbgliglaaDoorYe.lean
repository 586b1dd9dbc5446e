import Derived.Test.YtcijookbgliglaaDoorYd
/- The walks over the program's reader: word, goal, skip. -/
namespace Go.Proofs.YtcijookbgliglaaDoor
open Go.RowKit

theorem Pm.Gs.tsize {s : ByteArray} {g : Pm.Sg} (h : Pm.Gs s g) (hs : s.size ≤ 300) : g.t.size ≤ 300 := by
  obtain ⟨_, j, hj, rfl⟩ := h
  have hl := Pm.skipL_le s _ (Pm.skipB_le s j hj)
  have hem : Pm.emp.size = 0 := rfl
  unfold Pm.signAt Pm.signOf
  repeat' split
  all_goals simp
  all_goals omega
theorem isWd_isW {s : ByteArray} {g : Pm.Sg} (h : Pm.Gs s g) : Pm.isW ⟨g, -1⟩ = isWd g.t := h.isWord

set_option maxRecDepth 100000 in
set_option maxHeartbeats 1000000 in
theorem rdWord_any (w : World) (b : Nat) (s : ByteArray) (g : Pm.Sg) (hs : s.size ≤ 300) (hg : Pm.Gs s g) (hp : RdAt w b s g) :
    Calls Tryd.prog 71 #[.pointer (some ⟨b, 0, none⟩)] w fun e w' => RdOut b s w (Pm.word s ⟨g, -1⟩).2 (.agg #[.int .i64 (g.at_ : Int), .string g.t]) e w' := by
  have HT := hide (takeP_word (s := s) (isWd_isW hg))
  have hlt := hp.lt
  have n1 : ¬ w.heap.size = b := by omega
  have n3 : ¬ b = w.heap.size := by omega
  have hgt : g.t.size ≤ 300 := hg.tsize hs
  obtain ⟨c0, c1, c2, c3, cf⟩ := hp.cells
  have HA := hide (hp.alloc (.cells #[.int .i64 0, .string { data := #[] }] 121))
  clear hp
  go_enter Tryd.func71, Tryd.ntmps71
  go_wp2_with fail
  refine (isWord_any _ _ _ hgt).mono ?_
  rintro e w0 ⟨rfl, hb0⟩
  have HP := hide (HA.out.below hb0)
  have hz0 : w.heap.size < w0.heap.size := by have := hb0.size; simp at this; omega
  have M1 := hide ((hb0.block w.heap.size (by simp)).trans (heap_alloc_new w (.cells #[.int .i64 0, .string { data := #[] }] 121)))
  have HKA := hide (((Kept.refl b w).alloc (.cells #[.int .i64 0, .string { data := #[] }] 121)).trans (Kept.of_below b hb0))
  obtain ⟨d0, d1, d2, d3, df⟩ := HP.out.cells
  clear hb0
  go_wp2_with fail
  refine (take_any _ b s g _ hs hg HP.out).mono ?_
  rw [HT.out]
  rintro e w1 ⟨hk, (⟨hd, rfl, hr⟩ | ⟨x, hd, hth⟩)⟩
  · obtain ⟨r0, r1, rf⟩ := blk2 ((hk.block w.heap.size (hz0) n1).trans (M1.out))
    have HK := hide hk
    have HR := hide hr
    have HD := hide hd
    clear hk hr hd
    go_wp2_with fail
    refine bodyPost_ret (v := .agg #[.int .i64 (g.at_ : Int), .string g.t]) (by simp [results, Tryd.results71, go_sem, r0, r1]) rfl ⟨?_, Or.inl ⟨HD.out, rfl, ?_⟩⟩
    · exact ((HKA.out).trans HK.out).new2 w.heap.size (Nat.le_refl _) _ _
    · exact HR.out.other2 w.heap.size n3 _ _
  · obtain ⟨pv, rfl⟩ := hth.shape
    have HK := hide hk
    have HD := hide hd
    have HH := hide hth
    clear hk hd hth
    go_wp2_with fail
    exact ⟨rfl, (HKA.out).trans HK.out, Or.inr ⟨x, HD.out, HH.out⟩⟩

set_option maxRecDepth 100000 in
set_option maxHeartbeats 1000000 in
theorem rdGoal_any (w : World) (b : Nat) (s : ByteArray) (g : Pm.Sg) (hs : s.size ≤ 300) (hg : Pm.Gs s g) (hp : RdAt w b s g) :
    Calls Tryd.prog 87 #[.pointer (some ⟨b, 0, none⟩)] w fun e w' => RdOut b s w (Pm.goal1 s ⟨g, -1⟩).2 (.agg #[.int .i64 (g.at_ : Int), .string g.t]) e w' := by
  have HT := hide (takeP_goal (s := s) (isWd_isW hg) (hg.onText (l := Pm.wClosed) (by decide)))
  have hlt := hp.lt
  have n1 : ¬ w.heap.size = b := by omega
  have n3 : ¬ b = w.heap.size := by omega
  have hgt : g.t.size ≤ 300 := hg.tsize hs
  obtain ⟨c0, c1, c2, c3, cf⟩ := hp.cells
  have HA := hide (hp.alloc (.cells #[.int .i64 0, .string { data := #[] }] 121))
  clear hp
  cases hwd : isWd g.t
  · have HT2 := hide (show takeP s g (g.t.toList == [99, 108, 111, 115, 101, 100]) = (Pm.goal1 s ⟨g, -1⟩).2 by have h := HT.out; rw [hwd] at h; exact h)
    go_enter Tryd.func87, Tryd.ntmps87
    go_wp2_with fail
    refine (isWord_any _ _ _ hgt).mono ?_
    rw [hwd]
    clear hwd
    rintro e w0 ⟨rfl, hb0⟩
    have HP := hide (HA.out.below hb0)
    have hz0 : w.heap.size < w0.heap.size := by have := hb0.size; simp at this; omega
    have M1 := hide ((hb0.block w.heap.size (by simp)).trans (heap_alloc_new w (.cells #[.int .i64 0, .string { data := #[] }] 121)))
    have HKA := hide (((Kept.refl b w).alloc (.cells #[.int .i64 0, .string { data := #[] }] 121)).trans (Kept.of_below b hb0))
    obtain ⟨d0, d1, d2, d3, df⟩ := HP.out.cells
    clear hb0
    go_wp2_with fail
    refine (take_any _ b s g _ hs hg HP.out).mono ?_
    rw [HT2.out]
    rintro e w1 ⟨hk, (⟨hd, rfl, hr⟩ | ⟨x, hd, hth⟩)⟩
    · obtain ⟨r0, r1, rf⟩ := blk2 ((hk.block w.heap.size (hz0) n1).trans (M1.out))
      have HK := hide hk
      have HR := hide hr
      have HD := hide hd
      clear hk hr hd
      go_wp2_with fail
      refine bodyPost_ret (v := .agg #[.int .i64 (g.at_ : Int), .string g.t]) (by simp [results, Tryd.results87, go_sem, r0, r1]) rfl ⟨?_, Or.inl ⟨HD.out, rfl, ?_⟩⟩
      · exact ((HKA.out).trans HK.out).new2 w.heap.size (Nat.le_refl _) _ _
      · exact HR.out.other2 w.heap.size n3 _ _
    · obtain ⟨pv, rfl⟩ := hth.shape
      have HK := hide hk
      have HD := hide hd
      have HH := hide hth
      clear hk hd hth
      go_wp2_with fail
      exact ⟨rfl, (HKA.out).trans HK.out, Or.inr ⟨x, HD.out, HH.out⟩⟩
  · have HT2 := hide (show takeP s g true = (Pm.goal1 s ⟨g, -1⟩).2 by have h := HT.out; rw [hwd] at h; exact h)
    go_enter Tryd.func87, Tryd.ntmps87
    go_wp2_with fail
    refine (isWord_any _ _ _ hgt).mono ?_
    rw [hwd]
    clear hwd
    rintro e w0 ⟨rfl, hb0⟩
    have HP := hide (HA.out.below hb0)
    have hz0 : w.heap.size < w0.heap.size := by have := hb0.size; simp at this; omega
    have M1 := hide ((hb0.block w.heap.size (by simp)).trans (heap_alloc_new w (.cells #[.int .i64 0, .string { data := #[] }] 121)))
    have HKA := hide (((Kept.refl b w).alloc (.cells #[.int .i64 0, .string { data := #[] }] 121)).trans (Kept.of_below b hb0))
    obtain ⟨d0, d1, d2, d3, df⟩ := HP.out.cells
    clear hb0
    go_wp2_with fail
    refine (take_any _ b s g _ hs hg HP.out).mono ?_
    rw [HT2.out]
    rintro e w1 ⟨hk, (⟨hd, rfl, hr⟩ | ⟨x, hd, hth⟩)⟩
    · obtain ⟨r0, r1, rf⟩ := blk2 ((hk.block w.heap.size (hz0) n1).trans (M1.out))
      have HK := hide hk
      have HR := hide hr
      have HD := hide hd
      clear hk hr hd
      go_wp2_with fail
      refine bodyPost_ret (v := .agg #[.int .i64 (g.at_ : Int), .string g.t]) (by simp [results, Tryd.results87, go_sem, r0, r1]) rfl ⟨?_, Or.inl ⟨HD.out, rfl, ?_⟩⟩
      · exact ((HKA.out).trans HK.out).new2 w.heap.size (Nat.le_refl _) _ _
      · exact HR.out.other2 w.heap.size n3 _ _
    · obtain ⟨pv, rfl⟩ := hth.shape
      have HK := hide hk
      have HD := hide hd
      have HH := hide hth
      clear hk hd hth
      go_wp2_with fail
      exact ⟨rfl, (HKA.out).trans HK.out, Or.inr ⟨x, HD.out, HH.out⟩⟩

set_option maxRecDepth 100000 in
set_option maxHeartbeats 1000000 in
theorem rdSkip_any (w : World) (b : Nat) (s : ByteArray) (g : Pm.Sg) (t : ByteArray) (l : List UInt8) (ht : t.toList = l) (hl : l ∈ Pm.selfL) (hs : s.size ≤ 300) (hg : Pm.Gs s g) (hp : RdAt w b s g) :
    Calls Tryd.prog 72 #[.pointer (some ⟨b, 0, none⟩), .string t] w fun e w' => RdOut b s w (Pm.skip s ⟨g, -1⟩ l).2 (.bool (Pm.skip s ⟨g, -1⟩ l).1) e w' := by
  have ho := hg.onText hl
  obtain ⟨c0, c1, c2, c3, cf⟩ := hp.cells
  have HP := hide hp
  subst ht
  clear hp
  cases hq : (g.t.toList == t.toList)
  · rw [hq] at ho
    have hn : ¬ g.t.toList = t.toList := by simpa using hq
    rw [Pm.skip_no s _ _ ho]
    clear ho
    go_enter Tryd.func72, Tryd.ntmps72
    go_wp2_with fail
    go_ret
    exact ⟨Kept.refl _ _, Or.inl ⟨Pm.dead_alive g hg.1, rfl, HP.out⟩⟩
  · rw [hq] at ho
    have hn : g.t.toList = t.toList := by simpa using hq
    rw [Pm.skip_yes s _ _ ho, Pm.next1]
    clear ho
    go_enter Tryd.func72, Tryd.ntmps72
    go_wp2_with fail
    refine (advance_any _ b s g hs hg.le HP.out).mono ?_
    rintro e w1 ⟨hk, (⟨h63, rfl⟩ | ⟨h63, rfl, hr⟩)⟩
    · have HT := hide (Pm.dead_63 _ h63)
      have HK := hide hk
      clear hk h63
      unfold stray
      go_wp2_with fail
      exact ⟨rfl, HK.out, Or.inr ⟨_, HT.out, Or.inl rfl⟩⟩
    · have HT := hide (Pm.dead_alive _ h63)
      have HK := hide hk
      have HR := hide hr
      clear hk hr h63
      go_wp2_with fail
      go_ret
      exact ⟨HK.out, Or.inl ⟨HT.out, rfl, HR.out⟩⟩
end Go.Proofs.YtcijookbgliglaaDoor
