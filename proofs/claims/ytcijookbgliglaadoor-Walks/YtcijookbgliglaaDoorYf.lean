import Derived.Test.YtcijookbgliglaaDoorYe
import Derived.Test.YtcijookbgliglaaDoorP
/- The reader's contracts once more, with what they come to under names; the walk over the program's guard. -/
namespace Go.Proofs.YtcijookbgliglaaDoor
open Go.RowKit

/-- What comes of a call of the reader whose pen goes on to q. -/
def Go1 (b : Nat) (s : ByteArray) (w : World) (q : Pm.Pn) (φ : Ending → World → Prop) (e : Ending) (w' : World) : Prop :=
  Kept b w w' ∧ ((Pm.Live s q ∧ φ e w' ∧ RdAt w' b s q.g) ∨ ∃ x, Pm.dead q = some x ∧ Thrown s e x)

theorem must_at (w : World) (b : Nat) (s : ByteArray) (p : Pm.Pn) (t : ByteArray) {l : List UInt8} {g : Pm.Sg} {q : Pm.Pn} (ht : t.toList = l) (hl : l ∈ Pm.selfL) (hn : Pm.need s p l = (g, q)) (hs : s.size ≤ 300) (hL : Pm.Live s p) (hp : RdAt w b s p.g) :
    Calls Tryd.prog 70 #[.pointer (some ⟨b, 0, none⟩), .string t] w fun e w' => Go1 b s w q (fun e _ => e = .returned (.agg #[.int .i64 (g.at_ : Int), .string g.t])) e w' := by
  refine (must_any w b s p.g t l ht hl hs hL.2 hp).mono ?_
  rintro e w' ⟨hk, h⟩
  rw [← hL.eta, hn] at h
  refine ⟨hk, ?_⟩
  rcases h with ⟨hd, rfl, hr⟩ | h
  · have h1 := Pm.live_need (t := l) hL (by rw [hn]; exact hd)
    rw [hn] at h1
    refine .inl ⟨h1.1, ?_, hr⟩
    have e2 : g = p.g := h1.2
    show _ = _
    rw [e2]
  · exact .inr h
theorem word_rd (w : World) (b : Nat) (s : ByteArray) (p : Pm.Pn) {g : Pm.Sg} {q : Pm.Pn} (hn : Pm.word s p = (g, q)) (hs : s.size ≤ 300) (hL : Pm.Live s p) (hp : RdAt w b s p.g) :
    Calls Tryd.prog 71 #[.pointer (some ⟨b, 0, none⟩)] w fun e w' => Go1 b s w q (fun e _ => e = .returned (.agg #[.int .i64 (g.at_ : Int), .string g.t])) e w' := by
  refine (rdWord_any w b s p.g hs hL.2 hp).mono ?_
  rintro e w' ⟨hk, h⟩
  rw [← hL.eta, hn] at h
  refine ⟨hk, ?_⟩
  rcases h with ⟨hd, rfl, hr⟩ | h
  · have h1 := Pm.live_word hL (by rw [hn]; exact hd)
    rw [hn] at h1
    refine .inl ⟨h1.1, ?_, hr⟩
    have e2 : g = p.g := h1.2
    show _ = _
    rw [e2]
  · exact .inr h
theorem goal_rd (w : World) (b : Nat) (s : ByteArray) (p : Pm.Pn) {g : Pm.Sg} {q : Pm.Pn} (hn : Pm.goal1 s p = (g, q)) (hs : s.size ≤ 300) (hL : Pm.Live s p) (hp : RdAt w b s p.g) :
    Calls Tryd.prog 87 #[.pointer (some ⟨b, 0, none⟩)] w fun e w' => Go1 b s w q (fun e _ => e = .returned (.agg #[.int .i64 (g.at_ : Int), .string g.t])) e w' := by
  refine (rdGoal_any w b s p.g hs hL.2 hp).mono ?_
  rintro e w' ⟨hk, h⟩
  rw [← hL.eta, hn] at h
  refine ⟨hk, ?_⟩
  rcases h with ⟨hd, rfl, hr⟩ | h
  · have h1 := Pm.live_goal1 hL (by rw [hn]; exact hd)
    rw [hn] at h1
    refine .inl ⟨h1.1, ?_, hr⟩
    have e2 : g = p.g := h1.2
    show _ = _
    rw [e2]
  · exact .inr h
theorem skip_rd (w : World) (b : Nat) (s : ByteArray) (p : Pm.Pn) (t : ByteArray) {l : List UInt8} {r : Bool} {q : Pm.Pn} (ht : t.toList = l) (hl : l ∈ Pm.selfL) (hn : Pm.skip s p l = (r, q)) (hs : s.size ≤ 300) (hL : Pm.Live s p) (hp : RdAt w b s p.g) :
    Calls Tryd.prog 72 #[.pointer (some ⟨b, 0, none⟩), .string t] w fun e w' => Go1 b s w q (fun e _ => e = .returned (.bool r)) e w' := by
  refine (rdSkip_any w b s p.g t l ht hl hs hL.2 hp).mono ?_
  rintro e w' ⟨hk, h⟩
  rw [← hL.eta, hn] at h
  refine ⟨hk, ?_⟩
  rcases h with ⟨hd, rfl, hr⟩ | h
  · have h1 := Pm.live_skip (t := l) hL (by rw [hn]; exact hd)
    rw [hn] at h1
    exact .inl ⟨h1, rfl, hr⟩
  · exact .inr h

theorem blk3 {w : World} {k : Nat} {a b c : Value} {T : TypeId} (h : w.heap[k]? = some (.cells #[a, b, c] T (0, 0))) :
    w.cell? ⟨k, 0, none⟩ = some a ∧ w.cell? ⟨k, 1, none⟩ = some b ∧ w.cell? ⟨k, 2, none⟩ = some c ∧ ∀ o, w.frozen? ⟨k, o, none⟩ = false := by
  simp [World.cell?, World.frozen?, h]

set_option maxRecDepth 100000 in
set_option maxHeartbeats 1000000 in
theorem guard_rd (w : World) (b : Nat) (s : ByteArray) (p : Pm.Pn) {nt : Bool} {r1 r2 : Pm.Pn} {g : Pm.Sg} (h1 : Pm.skip s p Pm.wNot = (nt, r1)) (h2 : Pm.word s r1 = (g, r2)) (hs : s.size ≤ 300) (hL : Pm.Live s p) (hp : RdAt w b s p.g) :
    Calls Tryd.prog 86 #[.pointer (some ⟨b, 0, none⟩)] w fun e w' => Go1 b s w r2 (fun e _ => e = .returned (.agg #[.int .i64 (g.at_ : Int), .string g.t, .bool nt])) e w' := by
  have hlt := hp.lt
  have n1 : ¬ w.heap.size = b := by omega
  have n3 : ¬ b = w.heap.size := by omega
  have m1 := heap_alloc_new w (.cells #[.int .i64 0, .string { data := #[] }, .bool false] 157)
  have HA := hide (hp.alloc (.cells #[.int .i64 0, .string { data := #[] }, .bool false] 157))
  have M1 := hide m1
  have N1 := hide h1
  have N2 := hide h2
  clear hp m1 h1 h2
  go_enter Tryd.func86, Tryd.ntmps86
  go_wp2_with fail
  refine (skip_rd _ b s p ⟨#[110, 111, 116]⟩ litNot (by decide) N1.out hs hL HA.out).mono ?_
  rintro e w1 ⟨hk1, (⟨hL1, rfl, hr1⟩ | ⟨x, hd, hth⟩)⟩
  · have K1 := hide (((Kept.refl b w).alloc _).trans hk1)
    have R1 := hide hr1
    have MM1 := hide ((hk1.block w.heap.size (by simp) n1).trans M1.out)
    clear hk1 hr1
    go_wp2_with fail
    refine (word_rd _ b s r1 N2.out hs hL1 R1.out).mono ?_
    rintro e w2 ⟨hk2, (⟨hL2, rfl, hr2⟩ | ⟨x, hd, hth⟩)⟩
    · obtain ⟨q0, q1, q2, qf⟩ := blk3 ((hk2.block w.heap.size (Array.getElem?_eq_some_iff.1 MM1.out).1 n1).trans MM1.out)
      have hz2 : w.heap.size < w2.heap.size := World.block_lt_of_cell? w2 _ q0
      have K2 := hide (K1.out.trans hk2)
      have R2 := hide hr2
      clear hk2 hr2
      go_wp2_with fail
      refine bodyPost_ret (v := .agg #[.int .i64 (g.at_ : Int), .string g.t, .bool nt]) (by simp [results, Tryd.results86, go_sem, q0, q1, q2, hz2]) rfl ⟨?_, Or.inl ⟨hL2, rfl, ?_⟩⟩
      · exact (((K2.out.setNew ⟨w.heap.size, 0, none⟩ (Nat.le_refl _) _).setNew ⟨w.heap.size, 1, none⟩ (Nat.le_refl _) _).setNew ⟨w.heap.size, 2, none⟩ (Nat.le_refl _) _).alloc _
      · exact (((R2.out.other ⟨w.heap.size, 0, none⟩ n3 _).other ⟨w.heap.size, 1, none⟩ n3 _).other ⟨w.heap.size, 2, none⟩ n3 _).alloc _
    · obtain ⟨pv, rfl⟩ := hth.shape
      have K2 := hide (K1.out.trans hk2)
      have HD := hide hd
      have HH := hide hth
      clear hk2 hd hth
      go_wp2_with fail
      exact ⟨rfl, K2.out, Or.inr ⟨x, HD.out, HH.out⟩⟩
  · obtain ⟨pv, rfl⟩ := hth.shape
    have K1 := hide (((Kept.refl b w).alloc _).trans hk1)
    have HD := hide (show Pm.dead r2 = some x by have h := Pm.dead_word (s := s) hd; rw [N2.out] at h; exact h)
    have HH := hide hth
    clear hk1 hd hth
    go_wp2_with fail
    exact ⟨rfl, K1.out, Or.inr ⟨x, HD.out, HH.out⟩⟩
end Go.Proofs.YtcijookbgliglaaDoor
