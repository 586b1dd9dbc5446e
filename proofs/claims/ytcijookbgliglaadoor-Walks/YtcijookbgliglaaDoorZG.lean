import Derived.Test.YtcijookbgliglaaDoorZt
import Derived.Lib.Strings
import Derived.Lib.BufferWrite
import Derived.Lib.UnsafeStr
import Derived.Laws.MakeOwn
import Derived.Test.YtcijookbgliglaaDoorP
import Derived.Test.YtcijookbgliglaaDoorXa
/- The walks over strings.Clone and what it calls. -/
namespace Go.Proofs.YtcijookbgliglaaDoor
open Go.RowKit

theorem Tryd.underlyingBytes : Tryd.prog.underlying 139 = some (.slice 5) := by kernel_rfl
theorem Tryd.underlyingByteP : Tryd.prog.underlying 140 = some (.pointer 5) := by kernel_rfl
theorem Tryd.infoByte : (Tryd.prog.info? 5).map (fun i => (i.zero, i.size, i.bytes)) = some (some (.int .u8 0), 1, 1) := by kernel_rfl

set_option maxHeartbeats 4000000 in
set_option maxRecDepth 100000 in
theorem slClone_any (s : ByteArray) (w : World) (hlim : s.size ≤ 281474976710656) :
    Calls Tryd.prog 43 #[.string s] w fun e w' => e = .returned (.string s) ∧ Below w.heap.size w w' := by
  by_cases h0 : s.size = 0
  · have hs : s = ⟨#[]⟩ := by
      apply ByteArray.ext
      exact Array.eq_empty_of_size_eq_zero h0
    subst hs
    go_enter Tryd.func43, Tryd.ntmps43
    go_wp2
    go_ret
    exact ⟨rfl, Below.refl _ _⟩
  · obtain ⟨i0, hi, hz0, hz1, hz2⟩ := info_parts Tryd.infoByte
    have hinfo : (Tryd.prog.info? 5).map (·.size) = some 1 := by rw [hi]; simp [hz1]
    have hco : Tryd.prog.cellsOf 5 = 1 := by simp [Program.cellsOf, hi, hz1]
    obtain ⟨M, hM⟩ : ∃ M, M = madeCells (Value.int .u8 0).cells (((s.size : Nat) : Int).toNat * i0.size) := ⟨_, rfl⟩
    have hMs : M.size = s.size := by rw [hM, size_madeCells, hz1]; simp
    have hmk : ∀ W : World, (Instr.makeSlice 139 (.int .i64 (s.size : Int)) (.int .i64 (s.size : Int))).run Tryd.prog W = .ok (.slice (some ⟨W.heap.size, 0, none⟩) s.size s.size) (W.alloc (.cells M 5)) := fun W => by
      have h := run_make (P := Tryd.prog) W 139 5 i0 (.int .u8 0) Tryd.underlyingBytes hi hz0 .i64 .i64 (s.size : Int) (s.size : Int) (by omega) (by omega) (by rw [hz2]; omega) (by omega)
      rw [← hM] at h
      simpa using h
    clear hM
    have hcp := Lib.run_copy_row_string (P := Tryd.prog) (w.alloc (.cells M 5)) 139 9 3 5 w.heap.size 0 s.size s.size s M 5 Tryd.underlyingBytes hinfo (heap_alloc_new w _) (Nat.le_refl _) (by omega)
    obtain ⟨Y, hY⟩ : ∃ Y, Y = (M.toList.take 0 ++ Lib.byteCells s.data.toList ++ M.toList.drop (0 + s.size)).toArray := ⟨_, rfl⟩
    rw [← hY] at hcp
    have hYl : Y.toList = Lib.byteCells s.data.toList := by
      rw [hY, List.toList_toArray, List.take_zero, List.nil_append, List.drop_of_length_le (by rw [Array.length_toList]; omega), List.append_nil]
    have hYs : Y.size = s.size := by rw [← Array.length_toList, hYl, Lib.byteCells_length, ← Lib.size_eq]
    have hgY : ((w.alloc (.cells M 5)).setRow w.heap.size Y).heap[w.heap.size]? = some (.cells Y 5 (0, 0)) := setRow_heap _ _ M _ 5 (0, 0) (heap_alloc_new w _)
    have hne : s.data.toList ≠ [] := fun e => h0 (by rw [Lib.size_eq, e]; rfl)
    have hUS := Lib.run_unsafeString_row (P := Tryd.prog) ((w.alloc (.cells M 5)).setRow w.heap.size Y) 140 3 9 5 Tryd.underlyingByteP hco w.heap.size Y.size (by unfold World.shape?; rw [hgY]) s.data.toList hne (by rw [← Lib.size_eq]; omega) (by rw [← Lib.size_eq]; omega)
      (fun j x hx => Lib.cells_of_row hgY Y.size j _ (by rw [List.take_of_length_le (by rw [Array.length_toList]; exact Nat.le_refl _), hYl]; simp [Lib.byteCells, hx]))
    rw [← Lib.size_eq] at hUS
    clear hY
    go_enter Tryd.func43, Tryd.ntmps43
    go_wp2
    go_ret
    have hb1 : Below w.heap.size w (w.alloc (.cells M 5)) := (Below.refl _ w).alloc (Nat.le_refl _) _
    have hb2 : Below w.heap.size (w.alloc (.cells M 5)) ((w.alloc (.cells M 5)).setRow w.heap.size Y) := ⟨rfl, rfl, rfl, by simp, fun k hk => setRow_other _ _ _ _ (by omega)⟩
    exact ⟨rfl, Lib.below_freeze (hb1.trans hb2) (p := ⟨w.heap.size, 0, none⟩) (Nat.le_refl _) _⟩

set_option maxHeartbeats 400000 in
theorem clone_any (s : ByteArray) (w : World) (hlim : s.size ≤ 281474976710656) :
    Calls Tryd.prog 26 #[.string s] w fun e w' => e = .returned (.string s) ∧ Below w.heap.size w w' := by
  go_enter Tryd.func26, Tryd.ntmps26
  go_wp2_with fail
  refine (slClone_any s w hlim).mono ?_
  rintro e w1 ⟨rfl, hb⟩
  have HB := hide hb
  clear hb
  go_wp2_with fail
  go_ret
  exact ⟨rfl, HB.out⟩
end Go.Proofs.YtcijookbgliglaaDoor

/- The walk over the program's machine.Compile. -/
namespace Go.Proofs.YtcijookbgliglaaDoor
open Go.RowKit

noncomputable def compO (s : ByteArray) : Int × Int := if 300 < s.size then (1, 0) else if 0 ≤ (Pm.readL s).2.bad then (2, (Pm.readL s).2.bad) else flawOf (Pm.readL s).1
theorem flaw_zero (sts : List Pm.St) (h : (flawOf sts).1 = 0) : flawOf sts = (0, 0) ∧ Pm.manyO sts = none := by
  unfold flawOf at h ⊢
  cases h1 : Pm.manyO sts with
  | some p => rw [h1] at h; simp at h
  | none =>
    rw [h1] at h
    cases h2 : Pm.doubledO sts with
    | some p => rw [h2] at h; simp at h
    | none =>
      rw [h2] at h
      cases h3 : Pm.goallessO sts with
      | some p => rw [h3] at h; simp at h
      | none =>
        rw [h3] at h
        cases h4 : Pm.neverO sts with
        | some p => rw [h4] at h; simp at h
        | none =>
          rw [h4] at h
          cases h5 : Pm.lostO sts with
          | some p => rw [h5] at h; simp at h
          | none => exact ⟨rfl, rfl⟩
theorem comp_answer (s : ByteArray) : Pm.answer s = (if (compO s).1 = 0 then 0 else (compO s).1 + 1, (compO s).2) ∧ 0 ≤ (compO s).1 ∧ (compO s).1 ≤ 7 := by
  unfold Pm.answer compO
  by_cases h1 : 300 < s.size
  · rw [if_pos h1, if_pos h1]; simp
  · rw [if_neg h1, if_neg h1]
    by_cases h2 : 0 ≤ (Pm.readL s).2.bad
    · rw [if_pos h2, if_pos h2]; simp
    · rw [if_neg h2, if_neg h2]
      unfold Pm.verdict flawOf
      cases Pm.manyO (Pm.readL s).1 with
      | some p => simp
      | none =>
        cases Pm.doubledO (Pm.readL s).1 with
        | some p => simp
        | none =>
          cases Pm.goallessO (Pm.readL s).1 with
          | some p => simp
          | none =>
            cases Pm.neverO (Pm.readL s).1 with
            | some p => simp
            | none =>
              cases Pm.lostO (Pm.readL s).1 with
              | some p => simp
              | none => simp
theorem dead_is {s : ByteArray} {x : Nat} (h : Pm.dead (Pm.readL s).2 = some x) : 0 ≤ (Pm.readL s).2.bad ∧ (Pm.readL s).2.bad = (x : Int) := by
  have hd := Pm.readL_done s
  unfold Pm.dead at h
  split at h
  · rename_i h0
    simp at h
    exact ⟨h0, by omega⟩
  · rename_i h0
    split at h
    · rename_i h63
      unfold Pm.again at hd
      rw [h63] at hd
      simp at hd
      omega
    · simp at h

set_option maxRecDepth 100000 in
set_option maxHeartbeats 2000000 in
theorem machCompile_any (w : World) (s : ByteArray) :
    Calls Tryd.prog 13 #[.string s] w fun e w' => ∃ p : Option Addr, e = .returned (.tuple #[.pointer p, .int .i64 (compO s).1, .int .i64 (compO s).2]) ∧ Below w.heap.size w w' ∧ ((compO s).1 ≠ 0 → p = none) ∧ ((compO s).1 = 0 → ∃ w1 sv tv gs, w.heap.size ≤ w1.heap.size ∧ p = some ⟨w1.heap.size + 1, 0, none⟩ ∧ LayIn w1 w' (Pm.readL s).1 sv ((Pm.readL s).1.map (·.name)) (colsTo (Pm.readL s).1) tv gs (essOf (Pm.readL s).1) ∧ gs.length = (Pm.readL s).1.length) := by
  by_cases hs : 300 < s.size
  · have HA := hide (show compO s = (1, 0) by unfold compO; rw [if_pos hs])
    have hs' : (300 : Int) < (s.size : Int) := by omega
    go_enter Tryd.func13, Tryd.ntmps13
    go_wp2
    go_ret3
    rw [HA.out]
    exact ⟨none, rfl, Below.refl _ _, fun _ => rfl, fun h => by simp at h⟩
  · obtain ⟨⟨sts, q⟩, hn⟩ : ∃ n, Pm.readL s = n := ⟨_, rfl⟩
    have hs' : ¬ (300 : Int) < (s.size : Int) := by omega
    have HN := hide hn
    have hlen := Pm.readL_len s
    have hfew := Pm.readL_few s
    rw [hn] at hlen hfew
    have HFw := hide hfew
    clear hn hfew
    go_enter Tryd.func13, Tryd.ntmps13
    go_wp2_with fail
    refine (clone_any s w (by omega)).mono ?_
    rintro e w1 ⟨rfl, hb1⟩
    have HB1 := hide hb1
    clear hb1
    go_wp2_with fail
    refine (read_rd w1 s HN.out (by omega)).mono ?_
    rintro e w2 ⟨hb2, (⟨hL, a, n, c, rfl, hst⟩ | ⟨x, hd, rfl⟩)⟩
    · have HB2 := hide (HB1.out.trans (hb2.mono HB1.out.size))
      have hbad : q.bad = -1 := hL.1
      have HST := hide hst
      have HQ := hide (show compO s = flawOf sts by unfold compO; rw [if_neg hs, HN.out, if_neg (by show ¬ 0 ≤ q.bad; omega)])
      clear hb2 hL hst hbad
      go_wp2_with fail
      refine (check_any _ _ _ _ _ sts (fun x hx => by have := (HFw.out x hx).1; omega) hlen.1 (by have := hlen.2; omega) HST.out).mono ?_
      rintro e w3 ⟨rfl, hb3⟩
      have HB3 := hide (HB2.out.trans (hb3.mono HB2.out.size))
      have HST3 := hide (HST.out.below hb3)
      clear hb3
      by_cases hf : (flawOf sts).1 = 0
      · obtain ⟨hz, hm⟩ := flaw_zero sts hf
        have HZ := hide hz
        rw [hz]
        have htt := Pm.many_few sts hm
        clear hf hz hm
        go_wp2_with fail
        refine (layOut_any _ _ _ _ _ sts (by have := hlen.2; omega) (by unfold total; omega) (fun st hst r hr => by have h8 := (HFw.out st hst).2 r hr; exact ⟨by have := h8.1; omega, by have := h8.2.1; omega, by have := h8.2.2; omega⟩) HST3.out).mono ?_
        rintro e w4 ⟨rfl, sv, tv, gs, hlay, hgs⟩
        have HL := hide hlay
        clear hlay
        go_wp2_with fail
        go_ret3
        rw [HQ.out, HZ.out, HN.out]
        exact ⟨_, rfl, HB3.out.trans (HL.out.below.mono HB3.out.size), fun h => absurd rfl h, fun _ => ⟨w3, sv, tv, gs, HB3.out.size, rfl, HL.out, hgs⟩⟩
      · have hf1 : ((flawOf sts).1 == 0) = false := by simpa using hf
        have hf2 : ((flawOf sts).1 != 0) = true := by simpa using hf
        have HF1 := hide hf
        clear hf
        go_wp2_with fail
        go_ret3
        rw [HQ.out]
        exact ⟨none, rfl, HB3.out, fun _ => rfl, fun h => absurd h HF1.out⟩
    · obtain ⟨hb0, hbx⟩ := dead_is (s := s) (by rw [HN.out]; exact hd)
      have HB2 := hide (HB1.out.trans (hb2.mono HB1.out.size))
      have HQ := hide (show compO s = (2, (x : Int)) by unfold compO; rw [if_neg hs, if_pos hb0, hbx])
      clear hb2 hd hb0 hbx
      go_wp2_with fail
      go_ret3
      rw [HQ.out]
      exact ⟨none, rfl, HB2.out, fun _ => rfl, fun h => by simp at h⟩
end Go.Proofs.YtcijookbgliglaaDoor

/- The walks over the program's Compile, and over the law. -/
namespace Go.Proofs.YtcijookbgliglaaDoor
open Go.RowKit

theorem comp_zero (s : ByteArray) (h : (compO s).1 = 0) : compO s = (0, 0) := by
  unfold compO at h ⊢
  split
  · rename_i h1; rw [if_pos h1] at h; simp at h
  · rename_i h1
    rw [if_neg h1] at h
    split
    · rename_i h2; rw [if_pos h2] at h; simp at h
    · rename_i h2
      rw [if_neg h2] at h
      exact (flaw_zero _ h).1
/-- The numbers of the errors, as the program's variable has them. -/
def Tab (w : World) : Prop := ∀ j : Nat, 1 ≤ j → j ≤ 7 → w.cell? ⟨0, j, none⟩ = some (.int .i64 ((j : Int) + 1))

set_option maxRecDepth 100000 in
set_option maxHeartbeats 2000000 in
theorem compile_any (w : World) (s : ByteArray) (hT : Tab w) :
    Calls Tryd.prog 6 #[.string s] w fun e w' => ∃ p : Option Addr, e = .returned (.tuple #[.pointer p, .int .i64 (Pm.answer s).1, .int .i64 (Pm.answer s).2]) ∧ Below w.heap.size w w' ∧ ((Pm.answer s).1 ≠ 0 → p = none) ∧ ((Pm.answer s).1 = 0 → ∃ b w1 w2 sv tv gs, p = some ⟨b, 0, none⟩ ∧ w'.heap[b]? = some (.cells #[.pointer (some ⟨w1.heap.size + 1, 0, none⟩)] 55 (0, 0)) ∧ w.heap.size ≤ w1.heap.size ∧ LayIn w1 w2 (Pm.readL s).1 sv ((Pm.readL s).1.map (·.name)) (colsTo (Pm.readL s).1) tv gs (essOf (Pm.readL s).1) ∧ gs.length = (Pm.readL s).1.length ∧ Below w2.heap.size w2 w') := by
  obtain ⟨ha, h0, h7⟩ := comp_answer s
  have hw0 : 0 < w.heap.size := World.block_lt_of_cell? w _ (hT 1 (by omega) (by omega))
  have HA := hide ha
  have HT := hide hT
  clear ha hT
  go_enter Tryd.func6, Tryd.ntmps6
  go_wp2_with fail
  refine (machCompile_any w s).mono ?_
  rintro e w1 ⟨p, rfl, hb, hp1, hp2⟩
  have HB := hide hb
  by_cases hf : (compO s).1 = 0
  · have HZ := hide (comp_zero s hf)
    obtain ⟨w2, sv, tv, gs, hz, rfl, hL, hgs⟩ := hp2 hf
    rw [comp_zero s hf]
    have HL := hide hL
    clear hb hp1 hp2 hL hf
    go_wp2_with fail
    go_ret3
    rw [HA.out, HZ.out]
    refine ⟨_, rfl, HB.out.alloc HB.out.size _, fun h => absurd rfl h, fun _ => ⟨w1.heap.size, w2, w1, sv, tv, gs, rfl, ?_, hz, HL.out, hgs, (Below.refl _ _).alloc (Nat.le_refl _) _⟩⟩
    exact heap_alloc_new w1 _
  · obtain ⟨j, hj⟩ : ∃ j : Nat, (compO s).1 = (j : Int) := ⟨(compO s).1.toNat, by omega⟩
    have hj1 : 1 ≤ j := by omega
    have hj7 : j ≤ 7 := by omega
    have hc := (HB.out.cell (p := ⟨0, j, none⟩) hw0).trans (HT.out j hj1 hj7)
    obtain rfl := hp1 hf
    have HJ := hide hj
    rw [hj]
    have hne : ((j : Int) == 0) = false := by simp; omega
    have hne2 : ¬ (j : Int) = 0 := by omega
    have hj8 : (j : Int) < 8 := by omega
    clear hb hp1 hp2 hf hj
    go_wp2_with fail
    go_quiet (fail)
    go_wp2_with fail
    go_ret3
    rw [HA.out, HJ.out]
    rw [if_neg hne2]
    exact ⟨none, rfl, below_drewN HB.out _, fun _ => rfl, fun h => by simp at h; omega⟩
end Go.Proofs.YtcijookbgliglaaDoor

/- The walk over the law Compiles. -/
namespace Go.Proofs.YtcijookbgliglaaDoor
open Go.RowKit

set_option maxHeartbeats 400000 in
theorem num_any (x : Int) (w : World) : Calls Tryd.prog 8 #[.int .i64 x] w fun e w' => e = .returned (.int .i64 x) ∧ w' = w := by
  go_enter Tryd.func8, Tryd.ntmps8
  go_wp2
  go_ret
  exact ⟨rfl, rfl⟩

set_option maxRecDepth 100000 in
set_option maxHeartbeats 2000000 in
theorem compiles_any (w : World) (s : ByteArray) (hT : Tab w) : Calls Tryd.prog 3 #[.string s] w fun e w' => e = .returned (.bool true) ∧ Below w.heap.size w w' := by
  obtain ⟨⟨f, pl⟩, hf⟩ : ∃ a, Pm.answer s = a := ⟨_, rfl⟩
  have HC := hide (compile_any w s hT)
  have HF := hide hf
  clear hT hf
  go_enter Tryd.func3, Tryd.ntmps3
  go_wp2_with fail
  refine HC.out.mono ?_
  rintro e w1 ⟨p, rfl, hb1, hp1, hp2⟩
  have HB1 := hide hb1
  rw [HF.out] at hp1 hp2 ⊢
  have HP1 := hide hp1
  have HP2 := hide (show f = 0 → ∃ b, p = some ⟨b, 0, none⟩ from fun h => by obtain ⟨b, _, _, _, _, _, h1, _⟩ := hp2 h; exact ⟨b, h1⟩)
  clear hb1 hp1 hp2
  go_wp2_with fail
  refine (refCompile_any w1 s).mono ?_
  rintro e w2 ⟨lv, rfl, hb2, -⟩
  have HB2 := hide (HB1.out.trans (hb2.mono HB1.out.size))
  rw [HF.out]
  clear hb2
  go_wp2_with fail
  refine (num_any f w2).mono ?_
  rintro e w3 ⟨rfl, rfl⟩
  by_cases h0 : f = 0
  · obtain ⟨b, rfl⟩ := HP2.out h0
    subst h0
    go_wp2_with fail
    go_ret
    exact ⟨rfl, HB2.out⟩
  · obtain rfl := HP1.out h0
    have h1 : (f == 0) = false := by simpa using h0
    go_wp2_with fail
    go_ret
    exact ⟨rfl, HB2.out⟩
end Go.Proofs.YtcijookbgliglaaDoor
