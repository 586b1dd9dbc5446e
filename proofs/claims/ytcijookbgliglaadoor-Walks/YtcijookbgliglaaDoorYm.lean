import Derived.Test.YtcijookbgliglaaDoorYl
/- The walk over the program's read. -/
namespace Go.Proofs.YtcijookbgliglaaDoor
open Go.RowKit

theorem blk1 {w : World} {k : Nat} {a : Value} {T : TypeId} (h : w.heap[k]? = some (.cells #[a] T (0, 0))) :
    w.cell? ⟨k, 0, none⟩ = some a ∧ w.frozen? ⟨k, 0, none⟩ = false := by
  simp [World.cell?, World.frozen?, h]

set_option maxRecDepth 100000 in
set_option maxHeartbeats 2000000 in
theorem read_rd (w : World) (s : ByteArray) {sts : List Pm.St} {q : Pm.Pn} (hn : Pm.readL s = (sts, q)) (hs : s.size ≤ 300) :
    Calls Tryd.prog 25 #[.string s] w fun e w' => Below w.heap.size w w' ∧ ((Pm.Live s q ∧ ∃ a n c, e = .returned (.tuple #[.slice a n c, .int .i64 0, .bool true]) ∧ StatesC w' w.heap.size (.slice a n c) sts) ∨ ∃ x : Nat, Pm.dead q = some x ∧ e = .returned (.tuple #[.slice none 0 0, .int .i64 (x : Int), .bool false])) := by
  have hmf : ∀ (fn : Fn) (first cap : Array Value) (W : World), (Instr.makeFunc fn first cap).run Tryd.prog W = .ok (.func fn first cap) W := fun _ _ _ _ => rfl
  have NN := hide hn
  clear hn
  have hB0 := two_below w (.cells #[.string s] 9) (.cells #[.int .i64 0] 3)
  obtain ⟨m1, m2⟩ := two_new w (.cells #[.string s] 9) (.cells #[.int .i64 0] 3)
  have HB0 := hide hB0
  have M1 := hide m1
  have M2 := hide m2
  clear hB0 m1 m2
  go_enter_defers Tryd.func25, Tryd.ntmps25
  go_wp2_with fail
  refine (begin_rd _ s hs).mono ?_
  rintro e w1 ⟨hb1, (⟨h63, rfl⟩ | ⟨h63, rfl, hr1⟩)⟩
  · have hp1 := (hb1.block (w.heap.size + 1) (by simp)).trans M2.out
    have ht1 := (hb1.block w.heap.size (by simp; omega)).trans M1.out
    obtain ⟨c1, f1⟩ := blk1 hp1
    have HBW := hide (HB0.out.trans (hb1.mono (by simp; omega)))
    have HD := hide (show Pm.dead q = some (Pm.signAt s 0).at_ by
      have h := dead_statesL (s := s) (s.size + 1) true ⟨Pm.signAt s 0, -1⟩ (Pm.dead_63 _ h63)
      have h2 := NN.out
      unfold Pm.readL at h2
      rw [h2] at h; exact h)
    clear hb1 hp1 ht1 h63
    unfold stray
    go_wp2_with fail
    refine leaves_cons (f := 40) (args := #[.pointer (some ⟨w.heap.size + 1, 0, none⟩), .pointer (some ⟨w.heap.size, 0, none⟩)]) (by simp) (by simp [go_sem]) ?_
    refine (catch_stray ⟨w.heap.size + 1, 0, none⟩ ⟨w.heap.size, 0, none⟩ _ 0 [] _ c1 f1).mono ?_
    rintro e u' w'' ⟨rfl, rfl, rfl⟩
    simp [Leaves, settle, results, Tryd.results25, go_sem, c1]
    exact ⟨HBW.out.setCell (p := ⟨w.heap.size + 1, 0, none⟩) (Nat.le_succ _) _, _, HD.out, rfl⟩
  · have hr : RdAt w1 (w.heap.size + 1 + 1) s (Pm.signAt s 0) := by simpa using hr1
    have hz1 : w.heap.size + 1 + 1 < w1.heap.size := hr.lt
    have hL : Pm.Live s ⟨Pm.signAt s 0, -1⟩ := ⟨rfl, h63, 0, Nat.zero_le _, rfl⟩
    have HBW := hide (HB0.out.trans (hb1.mono (by simp; omega)))
    have P1 := hide ((hb1.block (w.heap.size + 1) (by simp)).trans M2.out)
    have T1 := hide ((hb1.block w.heap.size (by simp; omega)).trans M1.out)
    have HR := hide hr
    clear hb1 hr hr1 h63
    go_wp2_with fail
    refine (machine_rd _ (w.heap.size + 1 + 1) s ⟨Pm.signAt s 0, -1⟩ NN.out hs hL HR.out).mono ?_
    rintro e w2 ⟨hk2, (⟨hLq, v, rfl, hS⟩ | ⟨x, hd, hth⟩)⟩
    · obtain ⟨a, n, c, rfl⟩ := hS.slice
      obtain ⟨c1, f1⟩ := blk1 ((hk2.block (w.heap.size + 1) (by omega) (by omega)).trans P1.out)
      have HB2 := hide (HBW.out.trans (hk2.belowB (B := w.heap.size) (by omega) (by omega)))
      have S2 := hide (hS.lower (base' := w.heap.size + 2) (by omega))
      have HLq := hide hLq
      have hz2 : w.heap.size + 1 < w2.heap.size := World.block_lt_of_cell? w2 _ c1
      clear hk2 hLq hS
      go_wp2_with fail
      refine leaves_cons (f := 40) (args := #[.pointer (some ⟨w.heap.size + 1, 0, none⟩), .pointer (some ⟨w.heap.size, 0, none⟩)]) (by simp) (by simp [go_sem]) ?_
      refine (catch_idle ⟨w.heap.size + 1, 0, none⟩ ⟨w.heap.size, 0, none⟩ _).mono ?_
      rintro e u' w'' ⟨rfl, rfl, rfl⟩
      simp [Leaves, settle, results, Tryd.results25, go_sem, c1]
      exact ⟨HB2.out.setCell (p := ⟨w.heap.size + 1, 0, none⟩) (Nat.le_succ _) _, HLq.out, a, n, c, ⟨rfl, rfl, rfl⟩, (S2.out.same (fun k h1 _ => Below.heap_setCell _ _ _ _ (by simp; omega))).lower (by omega)⟩
    · have HB2 := hide (HBW.out.trans (hk2.belowB (B := w.heap.size) (by omega) (by omega)))
      obtain ⟨c1, f1⟩ := blk1 ((hk2.block (w.heap.size + 1) (by omega) (by omega)).trans P1.out)
      obtain ⟨t1, tf⟩ := blk1 ((hk2.block w.heap.size (by omega) (by omega)).trans T1.out)
      have hz2 : w.heap.size + 1 < w2.heap.size := World.block_lt_of_cell? w2 _ c1
      have HD := hide hd
      clear hk2 hd
      rcases hth with rfl | ⟨rfl, rfl⟩
      · unfold stray
        go_wp2_with fail
        refine leaves_cons (f := 40) (args := #[.pointer (some ⟨w.heap.size + 1, 0, none⟩), .pointer (some ⟨w.heap.size, 0, none⟩)]) (by simp) (by simp [go_sem]) ?_
        refine (catch_stray ⟨w.heap.size + 1, 0, none⟩ ⟨w.heap.size, 0, none⟩ _ 0 [] _ c1 f1).mono ?_
        rintro e u' w'' ⟨rfl, rfl, rfl⟩
        simp [Leaves, settle, results, Tryd.results25, go_sem, c1]
        exact ⟨HB2.out.setCell (p := ⟨w.heap.size + 1, 0, none⟩) (Nat.le_succ _) _, _, HD.out, rfl⟩
      · unfold short
        go_wp2_with fail
        refine leaves_cons (f := 40) (args := #[.pointer (some ⟨w.heap.size + 1, 0, none⟩), .pointer (some ⟨w.heap.size, 0, none⟩)]) (by simp) (by simp [go_sem]) ?_
        refine (catch_short (w.heap.size + 1) w.heap.size s 0 [] _ c1 f1 t1 (by omega) (by omega)).mono ?_
        rintro e u' w'' ⟨rfl, rfl, rfl⟩
        simp [Leaves, settle, results, Tryd.results25, go_sem, c1, hz2]
        have hB3 := HB2.out.setCell (p := ⟨w.heap.size + 1, 0, none⟩) (Nat.le_succ _) (.int .i64 (s.size : Int))
        exact ⟨hB3.alloc hB3.size _, _, HD.out, rfl⟩
end Go.Proofs.YtcijookbgliglaaDoor
