import Derived.Test.YtcijookbgliglaaDoorP
import Derived.Lib.Strings
/- The plain mathematics of a walk. -/
namespace Go.Proofs.YtcijookbgliglaaDoor.Pm

/-- Does a word hold? -/
def has (hs : List ByteArray) (w : ByteArray) : Bool := hs.any (fun x => eqB x w)
def met (hs : List ByteArray) (g : Gd) : Bool := has hs g.word != g.not
def allMet (hs : List ByteArray) (r : Rl) : Bool := r.guards.all (met hs)
def fits (hs : List ByteArray) (ev : ByteArray) (r : Rl) : Bool := eqB r.event ev && allMet hs r
/-- The first rule that fits, with its number. -/
def firstAt (f : Rl → Bool) : Nat → List Rl → Option (Nat × Rl)
  | _, [] => none
  | i, r :: t => if f r = true then some (i, r) else firstAt f (i + 1) t
/-- Where a goal leads: a state's number, or the number behind the last one. -/
def goalTo (sts : List St) (g : ByteArray) : Nat := if 0 ≤ whereI sts g then (whereI sts g).toNat else sts.length
def alertW : ByteArray := ⟨#[97, 108, 101, 114, 116]⟩
def closedW : ByteArray := ⟨#[99, 108, 111, 115, 101, 100]⟩
structure Tk where
  rule : Int
  row : Nat
  acts : List ByteArray
/-- What comes of one happening. -/
def step1 (sts : List St) (row : Nat) (ev : ByteArray) (hs : List ByteArray) : Tk :=
  match sts[row]? with
  | none => ⟨-1, row, []⟩
  | some st => match firstAt (fits hs ev) 0 st.rules with
    | none => ⟨-1, sts.length, [alertW]⟩
    | some (i, r) => ⟨(i : Int), goalTo sts r.goal, r.actions.map (·.word)⟩
def stateW (sts : List St) (row : Nat) : ByteArray := match sts[row]? with
  | none => closedW
  | some st => st.name
def walkL (sts : List St) : Nat → List (ByteArray × List ByteArray) → List Tk
  | _, [] => []
  | row, h :: t => step1 sts row h.1 h.2 :: walkL sts (step1 sts row h.1 h.2).row t
theorem walkL_len (sts : List St) : ∀ (l : List (ByteArray × List ByteArray)) (row : Nat), (walkL sts row l).length = l.length
  | [], _ => rfl
  | h :: t, row => by simp [walkL, walkL_len sts t]
theorem walkL_take (sts : List St) : ∀ (l : List (ByteArray × List ByteArray)) (row n : Nat), walkL sts row (l.take n) = (walkL sts row l).take n
  | [], _, n => by simp [walkL]
  | h :: t, _, 0 => by simp [walkL]
  | h :: t, row, n + 1 => by simp [walkL, walkL_take sts t]
/-- A search among those that an event asks for is a search among all. -/
theorem firstAt_filter (f : Rl → Bool) (hs : List ByteArray) (p : Rl × Nat → Bool) (hp : ∀ r i, (p (r, i) && allMet hs r) = f r) : ∀ (rs : List Rl) (n : Nat),
    ((((rs.zipIdx n).filter p).map fun x => (x.2, x.1)).find? fun e => allMet hs e.2) = firstAt f n rs
  | [], n => rfl
  | r :: t, n => by
    have ih := firstAt_filter f hs p hp t (n + 1)
    have h := hp r n
    rw [List.zipIdx_cons, firstAt]
    cases e1 : p (r, n)
    · rw [e1] at h
      rw [List.filter_cons_of_neg (by simp [e1]), ih, ← h]
      simp
    · rw [e1] at h
      rw [List.filter_cons_of_pos e1, List.map_cons]
      cases e2 : allMet hs r
      · rw [e2] at h
        rw [List.find?_cons_of_neg (by simp [e2]), ih, ← h]
        simp
      · rw [e2] at h
        rw [List.find?_cons_of_pos (by simp [e2]), ← h]
        simp
end Go.Proofs.YtcijookbgliglaaDoor.Pm

/- The plain mathematics of a walk, its steps one by one. -/
namespace Go.Proofs.YtcijookbgliglaaDoor.Pm

/-- Where a walk stands behind what happened. -/
def endRow (sts : List St) (row : Nat) (l : List (ByteArray × List ByteArray)) : Nat := l.foldl (fun r h => (step1 sts r h.1 h.2).row) row
theorem endRow_snoc (sts : List St) (row : Nat) (l : List (ByteArray × List ByteArray)) (h : ByteArray × List ByteArray) : endRow sts row (l ++ [h]) = (step1 sts (endRow sts row l) h.1 h.2).row := by
  simp [endRow, List.foldl_append]
theorem walkL_snoc (sts : List St) : ∀ (l : List (ByteArray × List ByteArray)) (row : Nat) (h : ByteArray × List ByteArray), walkL sts row (l ++ [h]) = walkL sts row l ++ [step1 sts (endRow sts row l) h.1 h.2]
  | [], row, h => rfl
  | x :: t, row, h => by
    simp only [List.cons_append, walkL]
    rw [walkL_snoc sts t]
    rfl
theorem walkL_get (sts : List St) (l : List (ByteArray × List ByteArray)) (i : Nat) (hi : i < l.length) : (walkL sts 0 l)[i]? = some (step1 sts (endRow sts 0 (l.take i)) l[i].1 l[i].2) := by
  have h1 : walkL sts 0 (l.take (i + 1)) = walkL sts 0 (l.take i) ++ [step1 sts (endRow sts 0 (l.take i)) l[i].1 l[i].2] := by
    rw [List.take_succ_eq_append_getElem hi, walkL_snoc]
  have h2 : (walkL sts 0 (l.take i)).length = i := by rw [walkL_len, List.length_take]; omega
  have h3 : (walkL sts 0 (l.take (i + 1)))[i]? = (walkL sts 0 l)[i]? := by
    rw [walkL_take, List.getElem?_take]; simp
  rw [← h3, h1, List.getElem?_append_right (by omega), h2]
  simp
theorem goalTo_le (sts : List St) (g : ByteArray) : goalTo sts g ≤ sts.length := by
  unfold goalTo
  rcases where_bd sts g with h | h
  · rw [h]; simp
  · rw [if_pos h.1]; omega
theorem step1_le (sts : List St) (row : Nat) (ev : ByteArray) (hs : List ByteArray) (h : row ≤ sts.length) : (step1 sts row ev hs).row ≤ sts.length := by
  unfold step1
  split
  · exact h
  · split
    · exact Nat.le_refl _
    · exact goalTo_le _ _
theorem endRow_le (sts : List St) : ∀ (l : List (ByteArray × List ByteArray)) (row : Nat), row ≤ sts.length → endRow sts row l ≤ sts.length
  | [], _, h => h
  | _ :: t, row, h => endRow_le sts t _ (step1_le sts row _ _ h)
/-- No state is called closed. -/
def Named (sts : List St) : Prop := ∀ st ∈ sts, eqB st.name closedW = false
theorem kept_closed {n : ByteArray} (h : kept n = false) : eqB n closedW = false := by
  unfold kept keptFrom keptL at h
  simp only [List.drop_zero, List.any_cons, List.any_nil, Bool.or_eq_false_iff] at h
  have h1 := h.2.2.2.2.2.2.1
  unfold eqB
  rw [show closedW.toList = wClosed from by decide +kernel]
  cases e : (n.toList == wClosed)
  · rfl
  · rw [beq_iff_eq] at e
    rw [e] at h1
    simp at h1
theorem sign_kept (s : ByteArray) (i k : Nat) (h : (signOf s i k).k = 119) : kept (signOf s i k).t = false := by
  unfold signOf at h ⊢
  split at h
  · rename_i h1
    rw [dif_pos h1]
    split at h
    · split at h <;> simp at h
    · rename_i h2
      rw [if_neg h2]
      split at h
      · simp at h
      · rename_i h3
        rw [if_neg h3]
        split at h
        · simp at h
        · rename_i h4
          rw [if_neg h4]
          simpa using h3
  · simp at h
theorem kept_emp : kept emp = false := by decide +kernel
theorem word_kept (s : ByteArray) (i : Nat) (p : Pn) (h : From s i p) : kept (word s p).1.t = false := by
  cases ho : isW p
  · rw [word_no s p ho]; exact kept_emp
  · rw [word_yes s p ho]
    obtain ⟨h1, h2⟩ := isW_bad ho
    rcases h with h | ⟨j, _, _, h3⟩
    · omega
    · show kept p.g.t = false
      rw [h3] at h2 ⊢
      exact sign_kept s _ _ h2
theorem statesL_named (s : ByteArray) : ∀ (n : Nat) (b : Bool) (p : Pn), ok s p → ∀ st ∈ (statesL s n b p).1, kept st.name = false
  | 0, false, p, _, st, h => by unfold statesL at h; simp at h
  | n + 1, false, p, _, st, h => by unfold statesL at h; simp at h
  | 0, true, p, _, st, h => by unfold statesL at h; simp at h
  | n + 1, true, p, hk, st, h => by
    unfold statesL at h
    rcases List.mem_cons.1 h with rfl | h
    · exact word_kept s _ _ (need_from s p _ hk)
    · exact statesL_named s n _ _ (state1_ok s p hk) st h
theorem read_named (s : ByteArray) : Named (readL s).1 := by
  intro st h
  exact kept_closed (statesL_named s (s.size + 1) true ⟨signAt s 0, -1⟩ (signAt_to_le s 0 (Nat.zero_le _)) st h)
theorem read_some (s : ByteArray) : 0 < (readL s).1.length := by
  unfold readL statesL; simp
theorem stateW_closed {sts : List St} (hn : Named sts) (row : Nat) (h : eqB (stateW sts row) closedW = true) : sts[row]? = none := by
  unfold stateW at h
  cases e : sts[row]? with
  | none => rfl
  | some st =>
    rw [e] at h
    have := hn st (List.mem_of_getElem? e)
    simp [this] at h
theorem stateW_none {sts : List St} {row : Nat} (h : sts[row]? = none) : stateW sts row = closedW := by unfold stateW; rw [h]
theorem step1_shut {sts : List St} {row : Nat} (h : sts[row]? = none) (ev : ByteArray) (hs : List ByteArray) : step1 sts row ev hs = ⟨-1, row, []⟩ := by unfold step1; rw [h]
theorem step1_none (sts : List St) (row : Nat) (ev : ByteArray) (hs : List ByteArray) (h : (step1 sts row ev hs).rule < 0) : stateW sts (step1 sts row ev hs).row = closedW := by
  unfold step1 at h ⊢
  split at h
  · rename_i e; exact stateW_none e
  · split at h
    · exact stateW_none (by simp)
    · simp only at h; omega
end Go.Proofs.YtcijookbgliglaaDoor.Pm

/- The plain mathematics of goals: a goal is the word of the state to which it leads. -/
namespace Go.Proofs.YtcijookbgliglaaDoor.Pm

theorem seek_none {α : Type} {f : Nat → α → Option Int} : ∀ (l : List α) (i : Nat), seek f i l = none → ∀ (k : Nat) (h : k < l.length), f (i + k) l[k] = none
  | [], _, _, k, h => by simp at h
  | x :: t, i, e, k, h => by
    rw [seek] at e
    split at e
    · simp at e
    · rename_i hx
      cases k with
      | zero => exact hx
      | succ k =>
        have := seek_none t (i + 1) e k (by simp at h; omega)
        rw [show i + (k + 1) = i + 1 + k from by omega]
        exact this
theorem seek_some {α : Type} {f : Nat → α → Option Int} : ∀ (l : List α) (i : Nat) (r : Int), seek f i l = some r → ∃ (k : Nat) (h : k < l.length), f (i + k) l[k] = some r
  | [], _, _, e => by simp [seek] at e
  | x :: t, i, r, e => by
    rw [seek] at e
    split at e
    · rename_i q hq
      simp at e; subst e
      exact ⟨0, by simp, hq⟩
    · obtain ⟨k, h, hk⟩ := seek_some t (i + 1) r e
      exact ⟨k + 1, by simp; omega, by rw [show i + (k + 1) = i + 1 + k from by omega]; exact hk⟩
theorem eqB_eq {a b : ByteArray} (h : eqB a b = true) : a = b := by
  unfold eqB at h
  rw [beq_iff_eq] at h
  rw [Lib.toList_data, Lib.toList_data] at h
  cases a; cases b
  simp at h
  rw [h]
theorem where_name (sts : List St) (g : ByteArray) (h : 0 ≤ whereI sts g) : ∃ (j : Nat) (hj : j < sts.length), whereI sts g = (j : Int) ∧ sts[j].name = g := by
  unfold whereI whereO seekAt out at *
  cases e : seek (nameF g) 0 (sts.drop 0) with
  | none => rw [e] at h; simp at h
  | some r =>
    obtain ⟨k, hk, h1⟩ := seek_some _ _ _ e
    simp only [List.drop_zero] at hk h1
    unfold nameF at h1
    split at h1
    · rename_i h2
      simp at h1
      exact ⟨k, hk, by simp; omega, eqB_eq h2⟩
    · simp at h1
/-- A goal that is good is the word of the state behind it. -/
theorem goal_state (sts : List St) (hg : goallessO sts = none) (st : St) (hs : st ∈ sts) (r : Rl) (hr : r ∈ st.rules) : stateW sts (goalTo sts r.goal) = r.goal := by
  obtain ⟨i, hi, rfl⟩ := List.mem_iff_getElem.1 hs
  obtain ⟨j, hj, rfl⟩ := List.mem_iff_getElem.1 hr
  have h1 := seek_none _ _ hg i (by simpa using hi)
  simp only [List.drop_zero] at h1
  have h2 := seek_none _ _ h1 j (by simpa using hj)
  simp only [List.drop_zero] at h2
  unfold rlF3 at h2
  split at h2
  · simp at h2
  · rename_i h3
    by_cases hw : 0 ≤ whereI sts sts[i].rules[j].goal
    · obtain ⟨k, hk, h4, h5⟩ := where_name sts _ hw
      unfold goalTo
      rw [if_pos hw, h4]
      unfold stateW
      simp only [Int.toNat_natCast]
      rw [List.getElem?_eq_getElem hk]
      exact h5
    · unfold goalTo
      rw [if_neg hw, stateW_none (by simp)]
      have h6 : (sts[i].rules[j].goal.toList == wClosed) = true := by
        cases h7 : (sts[i].rules[j].goal.toList == wClosed)
        · exact absurd (by rw [h7]; simp; omega) h3
        · rfl
      symm
      apply eqB_eq
      unfold eqB
      rw [show closedW.toList = wClosed from by decide +kernel]
      exact h6
theorem firstAt_mem (f : Rl → Bool) : ∀ (rs : List Rl) (n : Nat) (x : Nat × Rl), firstAt f n rs = some x → x.2 ∈ rs
  | [], n, x, h => by simp [firstAt] at h
  | r :: t, n, x, h => by
    rw [firstAt] at h
    split at h
    · simp at h; subst h; simp
    · exact List.mem_cons_of_mem _ (firstAt_mem f t _ x h)
end Go.Proofs.YtcijookbgliglaaDoor.Pm
