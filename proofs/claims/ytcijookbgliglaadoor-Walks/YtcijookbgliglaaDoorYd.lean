import Derived.Test.YtcijookbgliglaaDoorYc
/- The walks over the program's reader: take, skip, must, word, goal. -/
namespace Go.Proofs.YtcijookbgliglaaDoor
open Go.RowKit

def Thrown (s : ByteArray) (e : Ending) (x : Nat) : Prop := e = stray x ∨ (e = short ∧ x = s.size)
/-- What comes of a call of the reader: an answer, and the reader stands at p's sign; or a throw. -/
def RdOut (b : Nat) (s : ByteArray) (w : World) (p : Pm.Pn) (v : Value) (e : Ending) (w' : World) : Prop :=
  Kept b w w' ∧ ((Pm.dead p = none ∧ e = .returned v ∧ RdAt w' b s p.g) ∨ ∃ x, Pm.dead p = some x ∧ Thrown s e x)
def takeP (s : ByteArray) (g : Pm.Sg) (right : Bool) : Pm.Pn := if right = true then ⟨Pm.signAt s g.to_, -1⟩ else ⟨g, (g.at_ : Int)⟩

theorem blk2 {w : World} {k : Nat} {a b : Value} {T : TypeId} (h : w.heap[k]? = some (.cells #[a, b] T (0, 0))) :
    w.cell? ⟨k, 0, none⟩ = some a ∧ w.cell? ⟨k, 1, none⟩ = some b ∧ ∀ o, w.frozen? ⟨k, o, none⟩ = false := by
  simp [World.cell?, World.frozen?, h]
theorem Kept.new2 {w w' : World} {b : Nat} (h : Kept b w w') (k : Nat) (hk : w.heap.size ≤ k) (v0 v1 : Value) :
    Kept b w ((w'.setCell ⟨k, 0, none⟩ v0).setCell ⟨k, 1, none⟩ v1) :=
  (h.setNew ⟨k, 0, none⟩ hk v0).setNew ⟨k, 1, none⟩ hk v1
theorem RdAt.other2 {w : World} {b : Nat} {s : ByteArray} {g : Pm.Sg} (h : RdAt w b s g) (k : Nat) (hp : b ≠ k) (v0 v1 : Value) :
    RdAt ((w.setCell ⟨k, 0, none⟩ v0).setCell ⟨k, 1, none⟩ v1) b s g :=
  (h.other ⟨k, 0, none⟩ hp v0).other ⟨k, 1, none⟩ hp v1

set_option maxRecDepth 100000 in
set_option maxHeartbeats 1000000 in
theorem take_any (w : World) (b : Nat) (s : ByteArray) (g : Pm.Sg) (right : Bool) (hs : s.size ≤ 300) (hg : Pm.Gs s g) (hp : RdAt w b s g) :
    Calls Tryd.prog 83 #[.pointer (some ⟨b, 0, none⟩), .bool right] w fun e w' => RdOut b s w (takeP s g right) (.agg #[.int .i64 (g.at_ : Int), .string g.t]) e w' := by
  have hlt := hp.lt
  have n1 : ¬ w.heap.size = b := by omega
  have n2 : ¬ w.heap.size + 1 = b := by omega
  have n3 : ¬ b = w.heap.size := by omega
  have n4 : ¬ b = w.heap.size + 1 := by omega
  obtain ⟨c0, c1, c2, c3, cf⟩ := hp.cells
  obtain ⟨m1, m2⟩ := two_new w (.cells #[.int .i64 0, .string { data := #[] }] 121) (.cells #[.int .i64 (g.at_ : Int), .string g.t] 121)
  have hB := two_below w (.cells #[.int .i64 0, .string { data := #[] }] 121) (.cells #[.int .i64 (g.at_ : Int), .string g.t] 121)
  have HP := hide (hp.below hB)
  have HB := hide hB
  have M1 := hide m1
  have M2 := hide m2
  clear hp hB m1 m2
  cases right
  · have HT := hide (show Pm.dead (takeP s g false) = some g.at_ from Pm.dead_bad g g.at_)
    have he := hg.isEnd
    cases hk : (g.k == 0)
    · rw [hk] at he
      clear hk
      go_enter Tryd.func83, Tryd.ntmps83
      go_wp2_with (go_at_call 59; refine (isEnd_any _ _ _).mono ?_; rintro e w1 ⟨rfl, rfl⟩)
      refine ⟨rfl, (Kept.of_below b HB.out).alloc _, Or.inr ⟨_, HT.out, Or.inl rfl⟩⟩
    · rw [hk] at he
      have hsz : g.at_ = s.size := by
        rcases hg.cases with h | ⟨c, h, _⟩ | ⟨c, t, h, _⟩ | ⟨c, t, h, _⟩
        · rw [h]
        · rw [h] at hk; simp at hk
        · rw [h] at hk; simp at hk
        · rw [h] at hk; simp at hk
      have HZ := hide hsz
      clear hk hsz
      go_enter Tryd.func83, Tryd.ntmps83
      go_wp2_with (go_at_call 59; refine (isEnd_any _ _ _).mono ?_; rintro e w1 ⟨rfl, rfl⟩)
      refine ⟨rfl, (Kept.of_below b HB.out).alloc _, Or.inr ⟨_, HT.out, Or.inr ⟨rfl, HZ.out⟩⟩⟩
  · have hle := hg.le
    go_enter Tryd.func83, Tryd.ntmps83
    go_wp2_with fail
    refine (advance_any _ b s g hs hle HP.out).mono ?_
    rintro e w1 ⟨hk, (⟨h63, rfl⟩ | ⟨h63, rfl, hr⟩)⟩
    · have HT := hide (show Pm.dead (takeP s g true) = some (Pm.signAt s g.to_).at_ from Pm.dead_63 _ h63)
      have HK := hide hk
      clear hk h63
      unfold stray
      go_wp2_with fail
      exact ⟨rfl, (Kept.of_below b HB.out).trans HK.out, Or.inr ⟨_, HT.out, Or.inl rfl⟩⟩
    · have HT := hide (show Pm.dead (takeP s g true) = none from Pm.dead_alive _ h63)
      obtain ⟨r0, r1, rf⟩ := blk2 ((hk.block w.heap.size (by simp; omega) n1).trans M1.out)
      obtain ⟨t0, t1, tf⟩ := blk2 ((hk.block (w.heap.size + 1) (by simp) n2).trans M2.out)
      have HK := hide hk
      have HR := hide hr
      clear hk hr h63
      go_wp2_with fail
      refine bodyPost_ret (v := .agg #[.int .i64 (g.at_ : Int), .string g.t]) (by simp [results, Tryd.results83, go_sem, r0, r1]) rfl ⟨?_, Or.inl ⟨HT.out, rfl, ?_⟩⟩
      · exact ((Kept.of_below b HB.out).trans HK.out).new2 w.heap.size (Nat.le_refl _) _ _
      · exact HR.out.other2 w.heap.size n3 _ _

theorem Thrown.shape {s : ByteArray} {e : Ending} {x : Nat} (h : Thrown s e x) : ∃ pv, e = .panicked [{ v := pv, recovered := false }] := by
  rcases h with rfl | ⟨rfl, _⟩
  · exact ⟨_, rfl⟩
  · exact ⟨_, rfl⟩
theorem takeP_need {s : ByteArray} {g : Pm.Sg} {l : List UInt8} {right : Bool} (h : Pm.on ⟨g, -1⟩ l = right) : takeP s g right = (Pm.need s ⟨g, -1⟩ l).2 := by
  cases right
  · rw [Pm.need_no s _ l h, Pm.fail1]; rfl
  · rw [Pm.need_yes s _ l h, Pm.next1]; rfl
theorem takeP_word {s : ByteArray} {g : Pm.Sg} {right : Bool} (h : Pm.isW ⟨g, -1⟩ = right) : takeP s g right = (Pm.word s ⟨g, -1⟩).2 := by
  cases right
  · rw [Pm.word_no s _ h, Pm.fail1]; rfl
  · rw [Pm.word_yes s _ h, Pm.next1]; rfl
theorem takeP_goal {s : ByteArray} {g : Pm.Sg} {r1 r2 : Bool} (h1 : Pm.isW ⟨g, -1⟩ = r1) (h2 : Pm.on ⟨g, -1⟩ Pm.wClosed = r2) : takeP s g (r1 || r2) = (Pm.goal1 s ⟨g, -1⟩).2 := by
  unfold Pm.goal1
  cases r2
  · rw [if_neg (by simp [h2]), Bool.or_false]; exact takeP_word h1
  · rw [if_pos h2, Bool.or_true, Pm.next1]; rfl

set_option maxRecDepth 100000 in
set_option maxHeartbeats 1000000 in
theorem must_any (w : World) (b : Nat) (s : ByteArray) (g : Pm.Sg) (t : ByteArray) (l : List UInt8) (ht : t.toList = l) (hl : l ∈ Pm.selfL) (hs : s.size ≤ 300) (hg : Pm.Gs s g) (hp : RdAt w b s g) :
    Calls Tryd.prog 70 #[.pointer (some ⟨b, 0, none⟩), .string t] w fun e w' => RdOut b s w (Pm.need s ⟨g, -1⟩ l).2 (.agg #[.int .i64 (g.at_ : Int), .string g.t]) e w' := by
  have ho := hg.onText hl
  have HT := hide (takeP_need (s := s) ho)
  have hlt := hp.lt
  have n1 : ¬ w.heap.size = b := by omega
  have n3 : ¬ b = w.heap.size := by omega
  obtain ⟨c0, c1, c2, c3, cf⟩ := hp.cells
  have m1 := heap_alloc_new w (.cells #[.int .i64 0, .string { data := #[] }] 121)
  have HP := hide (hp.alloc (.cells #[.int .i64 0, .string { data := #[] }] 121))
  have M1 := hide m1
  have HLt := hide ht
  clear hp m1 ho ht
  go_enter Tryd.func70, Tryd.ntmps70
  go_wp2_with fail
  rw [HLt.out]
  refine (take_any _ b s g _ hs hg HP.out).mono ?_
  rw [HT.out]
  rintro e w1 ⟨hk, (⟨hd, rfl, hr⟩ | ⟨x, hd, hth⟩)⟩
  · obtain ⟨r0, r1, rf⟩ := blk2 ((hk.block w.heap.size (by simp) n1).trans M1.out)
    have HK := hide hk
    have HR := hide hr
    have HD := hide hd
    clear hk hr hd
    go_wp2_with fail
    refine bodyPost_ret (v := .agg #[.int .i64 (g.at_ : Int), .string g.t]) (by simp [results, Tryd.results70, go_sem, r0, r1]) rfl ⟨?_, Or.inl ⟨HD.out, rfl, ?_⟩⟩
    · exact (((Kept.refl _ _).alloc _).trans HK.out).new2 w.heap.size (Nat.le_refl _) _ _
    · exact HR.out.other2 w.heap.size n3 _ _
  · obtain ⟨pv, rfl⟩ := hth.shape
    have HK := hide hk
    have HD := hide hd
    have HH := hide hth
    clear hk hd hth
    go_wp2_with fail
    exact ⟨rfl, ((Kept.refl _ _).alloc _).trans HK.out, Or.inr ⟨x, HD.out, HH.out⟩⟩
end Go.Proofs.YtcijookbgliglaaDoor
