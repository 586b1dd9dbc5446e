import Derived.Test.YtcijookbgliglaaDoorZC
import Derived.Laws.EntriesVeiled
/- The walk over the program's check. -/
namespace Go.Proofs.YtcijookbgliglaaDoor
open Go.RowKit

def checkT : Array Value := #[.int .i64 3, .func (Fn.func 44) #[] #[], .int .i64 4, .func (Fn.func 45) #[] #[], .int .i64 5, .func (Fn.func 46) #[] #[], .int .i64 6, .func (Fn.func 47) #[] #[], .int .i64 7, .func (Fn.func 48) #[] #[]]
/-- The first flaw, and its place. -/
noncomputable def flawOf (sts : List Pm.St) : Int × Int :=
  match Pm.manyO sts with
  | some p => (3, p)
  | none => match Pm.doubledO sts with
    | some p => (4, p)
    | none => match Pm.goallessO sts with
      | some p => (5, p)
      | none => match Pm.neverO sts with
        | some p => (6, p)
        | none => match Pm.lostO sts with
          | some p => (7, p)
          | none => (0, 0)
noncomputable def chk (sts : List Pm.St) : Nat → Option Int
  | 0 => Pm.manyO sts
  | 1 => Pm.doubledO sts
  | 2 => Pm.goallessO sts
  | 3 => Pm.neverO sts
  | _ => Pm.lostO sts
theorem flaw_at (sts : List Pm.St) (k : Nat) (hk : k < 5) (h : ∀ j, j < k → chk sts j = none) (p : Int) (hp : chk sts k = some p) : flawOf sts = ((k : Int) + 3, p) := by
  unfold flawOf
  have h0 := h 0
  have h1 := h 1
  have h2 := h 2
  have h3 := h 3
  obtain rfl | rfl | rfl | rfl | rfl : k = 0 ∨ k = 1 ∨ k = 2 ∨ k = 3 ∨ k = 4 := by omega
  all_goals
    simp only [chk] at hp h0 h1 h2 h3
    simp_all
theorem flaw_none (sts : List Pm.St) (h : ∀ j, j < 5 → chk sts j = none) : flawOf sts = (0, 0) := by
  unfold flawOf
  have h0 := h 0
  have h1 := h 1
  have h2 := h 2
  have h3 := h 3
  have h4 := h 4
  simp only [chk] at h0 h1 h2 h3 h4
  simp_all
theorem chk_next {sts : List Pm.St} {k : Nat} (h : ∀ j, j < k → chk sts j = none) (hk : chk sts k = none) : ∀ j, j < k + 1 → chk sts j = none := by
  intro j hj
  by_cases e : j < k
  · exact h j e
  · have : j = k := by omega
    subst this; exact hk
set_option maxRecDepth 100000 in
set_option maxHeartbeats 4000000 in
theorem check_any (w : World) (base : Nat) (a : Option Addr) (n c : Nat) (sts : List Pm.St) (hrl : ∀ x ∈ sts, x.rules.length ≤ 301) (hs0 : 0 < sts.length) (hsl : sts.length ≤ 301) (h : StatesC w base (.slice a n c) sts) :
    Calls Tryd.prog 27 #[.slice a n c] w fun e w' => e = .returned (.tuple #[.int .i64 (flawOf sts).1, .int .i64 (flawOf sts).2]) ∧ Below w.heap.size w w' := by
  obtain ⟨rfl, hM⟩ := h.len
  have HS := hide h
  have HRL := hide hrl
  clear h hrl
  go_enter Tryd.func27, Tryd.ntmps27
  go_wp2
  have HX := hide (heap_alloc_new w (.cells checkT 117))
  have HBW := hide ((Below.refl w.heap.size w).alloc (Nat.le_refl _) (.cells checkT 117))
  go_loopg [15] 5 (fun gk i wr => ∃ k : Nat, k + gk = 5 ∧ i = .int .i64 (k : Int) ∧ Hid (Below (w.heap.size + 1) (w.alloc (.cells checkT 117)) wr) ∧ Hid (∀ j, j < k → chk sts j = none))
  case atStart => exact ⟨0, by omega, rfl, Below.refl _ _, fun j hj => by omega⟩
  case round =>
    obtain ⟨k, hk, rfl, HB, HC⟩ := hrel
    have hsz : w.heap.size + 1 ≤ wr.heap.size := by have := HB.out.size; simpa using this
    have HT := hide ((HB.out.block w.heap.size (by omega)).trans HX.out)
    have HB0 := hide (HBW.out.trans (HB.out.mono (by omega)))
    obtain rfl | rfl | rfl | rfl | rfl | rfl : k = 0 ∨ k = 1 ∨ k = 2 ∨ k = 3 ∨ k = 4 ∨ k = 5 := by omega
    · have c0 : wr.cell? ⟨w.heap.size, 0, none⟩ = some (.int .i64 3) := by simp [World.cell?, HT.out, checkT]
      have c1 : wr.cell? ⟨w.heap.size, 1, none⟩ = some (.func (Fn.func 44) #[] #[]) := by simp [World.cell?, HT.out, checkT]
      have hlt : w.heap.size < wr.heap.size := by omega
      have HBn := hide ((Below.refl wr.heap.size wr).alloc (Nat.le_refl _) (.cells #[.int .i64 3, .func (Fn.func 44) #[] #[]] 117))
      have HBB := hide (HB0.out.trans (HBn.out.mono (by omega)))
      go_wp2_with fail
      refine (tooMany_any _ base _ _ _ sts HRL.out (HS.out.below HBB.out)).mono ?_
      rintro e w1 ⟨rfl, hb1⟩
      have HBm := hide (HBn.out.trans (hb1.mono (by simp)))
      have HB1 := hide (HB.out.trans (HBm.out.mono hsz))
      have HB2 := hide (HB0.out.trans (HBm.out.mono (by omega)))
      obtain ⟨y0, y1, -⟩ := blk2 ((hb1.block wr.heap.size (by simp)).trans (heap_alloc_new wr (.cells #[.int .i64 3, .func (Fn.func 44) #[] #[]] 117)))
      have hz1 : wr.heap.size < w1.heap.size := by have := hb1.size; simp at this; omega
      clear hb1 c0 c1
      cases hq : Pm.manyO sts with
      | none =>
        have HN := hide (chk_next HC.out hq)
        simp only [placeV, Option.getD_none, Option.isSome_none]
        clear hq
        go_wp2
        go_roundg 4
        case measure => omega
        case rel => exact ⟨1, by omega, by go_num, HB1, HN⟩
      | some r =>
        have HN := hide (flaw_at sts 0 (by omega) HC.out r hq)
        simp only [placeV, Option.getD_some, Option.isSome_some]
        clear hq
        go_wp2
        go_ret2
        refine ⟨?_, HB2.out⟩
        rw [HN.out]; rfl
    · have c0 : wr.cell? ⟨w.heap.size, 2, none⟩ = some (.int .i64 4) := by simp [World.cell?, HT.out, checkT]
      have c1 : wr.cell? ⟨w.heap.size, 3, none⟩ = some (.func (Fn.func 45) #[] #[]) := by simp [World.cell?, HT.out, checkT]
      have hlt : w.heap.size < wr.heap.size := by omega
      have HBn := hide ((Below.refl wr.heap.size wr).alloc (Nat.le_refl _) (.cells #[.int .i64 4, .func (Fn.func 45) #[] #[]] 117))
      have HBB := hide (HB0.out.trans (HBn.out.mono (by omega)))
      go_wp2_with fail
      refine (there_any _ base _ _ _ sts (HS.out.below HBB.out)).mono ?_
      rintro e w1 ⟨rfl, hb1⟩
      have HBm := hide (HBn.out.trans (hb1.mono (by simp)))
      have HB1 := hide (HB.out.trans (HBm.out.mono hsz))
      have HB2 := hide (HB0.out.trans (HBm.out.mono (by omega)))
      obtain ⟨y0, y1, -⟩ := blk2 ((hb1.block wr.heap.size (by simp)).trans (heap_alloc_new wr (.cells #[.int .i64 4, .func (Fn.func 45) #[] #[]] 117)))
      have hz1 : wr.heap.size < w1.heap.size := by have := hb1.size; simp at this; omega
      clear hb1 c0 c1
      cases hq : Pm.doubledO sts with
      | none =>
        have HN := hide (chk_next HC.out hq)
        simp only [placeV, Option.getD_none, Option.isSome_none]
        clear hq
        go_wp2
        go_roundg 3
        case measure => omega
        case rel => exact ⟨2, by omega, by go_num, HB1, HN⟩
      | some r =>
        have HN := hide (flaw_at sts 1 (by omega) HC.out r hq)
        simp only [placeV, Option.getD_some, Option.isSome_some]
        clear hq
        go_wp2
        go_ret2
        refine ⟨?_, HB2.out⟩
        rw [HN.out]; rfl
    · have c0 : wr.cell? ⟨w.heap.size, 4, none⟩ = some (.int .i64 5) := by simp [World.cell?, HT.out, checkT]
      have c1 : wr.cell? ⟨w.heap.size, 5, none⟩ = some (.func (Fn.func 46) #[] #[]) := by simp [World.cell?, HT.out, checkT]
      have hlt : w.heap.size < wr.heap.size := by omega
      have HBn := hide ((Below.refl wr.heap.size wr).alloc (Nat.le_refl _) (.cells #[.int .i64 5, .func (Fn.func 46) #[] #[]] 117))
      have HBB := hide (HB0.out.trans (HBn.out.mono (by omega)))
      go_wp2_with fail
      refine (noState_any _ base _ _ _ sts (HS.out.below HBB.out)).mono ?_
      rintro e w1 ⟨rfl, hb1⟩
      have HBm := hide (HBn.out.trans (hb1.mono (by simp)))
      have HB1 := hide (HB.out.trans (HBm.out.mono hsz))
      have HB2 := hide (HB0.out.trans (HBm.out.mono (by omega)))
      obtain ⟨y0, y1, -⟩ := blk2 ((hb1.block wr.heap.size (by simp)).trans (heap_alloc_new wr (.cells #[.int .i64 5, .func (Fn.func 46) #[] #[]] 117)))
      have hz1 : wr.heap.size < w1.heap.size := by have := hb1.size; simp at this; omega
      clear hb1 c0 c1
      cases hq : Pm.goallessO sts with
      | none =>
        have HN := hide (chk_next HC.out hq)
        simp only [placeV, Option.getD_none, Option.isSome_none]
        clear hq
        go_wp2
        go_roundg 2
        case measure => omega
        case rel => exact ⟨3, by omega, by go_num, HB1, HN⟩
      | some r =>
        have HN := hide (flaw_at sts 2 (by omega) HC.out r hq)
        simp only [placeV, Option.getD_some, Option.isSome_some]
        clear hq
        go_wp2
        go_ret2
        refine ⟨?_, HB2.out⟩
        rw [HN.out]; rfl
    · have c0 : wr.cell? ⟨w.heap.size, 6, none⟩ = some (.int .i64 6) := by simp [World.cell?, HT.out, checkT]
      have c1 : wr.cell? ⟨w.heap.size, 7, none⟩ = some (.func (Fn.func 47) #[] #[]) := by simp [World.cell?, HT.out, checkT]
      have hlt : w.heap.size < wr.heap.size := by omega
      have HBn := hide ((Below.refl wr.heap.size wr).alloc (Nat.le_refl _) (.cells #[.int .i64 6, .func (Fn.func 47) #[] #[]] 117))
      have HBB := hide (HB0.out.trans (HBn.out.mono (by omega)))
      go_wp2_with fail
      refine (neverTaken_any _ base _ _ _ sts (HS.out.below HBB.out)).mono ?_
      rintro e w1 ⟨rfl, hb1⟩
      have HBm := hide (HBn.out.trans (hb1.mono (by simp)))
      have HB1 := hide (HB.out.trans (HBm.out.mono hsz))
      have HB2 := hide (HB0.out.trans (HBm.out.mono (by omega)))
      obtain ⟨y0, y1, -⟩ := blk2 ((hb1.block wr.heap.size (by simp)).trans (heap_alloc_new wr (.cells #[.int .i64 6, .func (Fn.func 47) #[] #[]] 117)))
      have hz1 : wr.heap.size < w1.heap.size := by have := hb1.size; simp at this; omega
      clear hb1 c0 c1
      cases hq : Pm.neverO sts with
      | none =>
        have HN := hide (chk_next HC.out hq)
        simp only [placeV, Option.getD_none, Option.isSome_none]
        clear hq
        go_wp2
        go_roundg 1
        case measure => omega
        case rel => exact ⟨4, by omega, by go_num, HB1, HN⟩
      | some r =>
        have HN := hide (flaw_at sts 3 (by omega) HC.out r hq)
        simp only [placeV, Option.getD_some, Option.isSome_some]
        clear hq
        go_wp2
        go_ret2
        refine ⟨?_, HB2.out⟩
        rw [HN.out]; rfl
    · have c0 : wr.cell? ⟨w.heap.size, 8, none⟩ = some (.int .i64 7) := by simp [World.cell?, HT.out, checkT]
      have c1 : wr.cell? ⟨w.heap.size, 9, none⟩ = some (.func (Fn.func 48) #[] #[]) := by simp [World.cell?, HT.out, checkT]
      have hlt : w.heap.size < wr.heap.size := by omega
      have HBn := hide ((Below.refl wr.heap.size wr).alloc (Nat.le_refl _) (.cells #[.int .i64 7, .func (Fn.func 48) #[] #[]] 117))
      have HBB := hide (HB0.out.trans (HBn.out.mono (by omega)))
      go_wp2_with fail
      refine (lostC_any _ base _ _ _ sts hs0 hsl (HS.out.below HBB.out)).mono ?_
      rintro e w1 ⟨rfl, hb1⟩
      have HBm := hide (HBn.out.trans (hb1.mono (by simp)))
      have HB1 := hide (HB.out.trans (HBm.out.mono hsz))
      have HB2 := hide (HB0.out.trans (HBm.out.mono (by omega)))
      obtain ⟨y0, y1, -⟩ := blk2 ((hb1.block wr.heap.size (by simp)).trans (heap_alloc_new wr (.cells #[.int .i64 7, .func (Fn.func 48) #[] #[]] 117)))
      have hz1 : wr.heap.size < w1.heap.size := by have := hb1.size; simp at this; omega
      clear hb1 c0 c1
      cases hq : Pm.lostO sts with
      | none =>
        have HN := hide (chk_next HC.out hq)
        simp only [placeV, Option.getD_none, Option.isSome_none]
        clear hq
        go_wp2
        go_roundg 0
        case measure => omega
        case rel => exact ⟨5, by omega, by go_num, HB1, HN⟩
      | some r =>
        have HN := hide (flaw_at sts 4 (by omega) HC.out r hq)
        simp only [placeV, Option.getD_some, Option.isSome_some]
        clear hq
        go_wp2
        go_ret2
        refine ⟨?_, HB2.out⟩
        rw [HN.out]; rfl
    · have HN := hide (flaw_none sts HC.out)
      go_wp2
      go_ret2
      refine ⟨?_, HB0.out⟩
      rw [HN.out]; rfl
end Go.Proofs.YtcijookbgliglaaDoor
