import Derived.Laws.Strings
/- The plain mathematics of signs: what stands at a place of a text. -/
namespace Go.Proofs.YtcijookbgliglaaDoor.Pm

def isSm (c : UInt8) : Bool := decide (97 ≤ (c.toNat : Int)) && decide ((c.toNat : Int) ≤ 122)
def isBl (c : UInt8) : Bool := ((c.toNat : Int) == 32) || ((c.toNat : Int) == 10)

/-- The first place from i on where no blank stands. -/
def skipB (s : ByteArray) (i : Nat) : Nat :=
  if h : i < s.size then (if isBl s[i] = true then skipB s (i + 1) else i) else i
termination_by s.size - i

/-- The first place from i on where no letter stands. -/
def skipL (s : ByteArray) (i : Nat) : Nat :=
  if h : i < s.size then (if isSm s[i] = true then skipL s (i + 1) else i) else i
termination_by s.size - i

theorem skipB_yes (s : ByteArray) (i : Nat) (h : i < s.size) (b : isBl s[i] = true) : skipB s i = skipB s (i + 1) := by
  rw [skipB]; simp [h, b]
theorem skipB_no (s : ByteArray) (i : Nat) (h : i < s.size) (b : isBl s[i] = false) : skipB s i = i := by
  rw [skipB]; simp [h, b]
theorem skipB_end (s : ByteArray) (i : Nat) (h : ¬ i < s.size) : skipB s i = i := by
  rw [skipB]; simp [h]
theorem skipL_yes (s : ByteArray) (i : Nat) (h : i < s.size) (b : isSm s[i] = true) : skipL s i = skipL s (i + 1) := by
  rw [skipL]; simp [h, b]
theorem skipL_no (s : ByteArray) (i : Nat) (h : i < s.size) (b : isSm s[i] = false) : skipL s i = i := by
  rw [skipL]; simp [h, b]
theorem skipL_end (s : ByteArray) (i : Nat) (h : ¬ i < s.size) : skipL s i = i := by
  rw [skipL]; simp [h]

theorem skipB_ge (s : ByteArray) (i : Nat) : i ≤ skipB s i := by
  by_cases h : i < s.size
  · cases b : isBl s[i]
    · rw [skipB_no s i h b]; exact Nat.le_refl i
    · rw [skipB_yes s i h b]; have := skipB_ge s (i + 1); omega
  · rw [skipB_end s i h]; exact Nat.le_refl i
termination_by s.size - i
theorem skipL_ge (s : ByteArray) (i : Nat) : i ≤ skipL s i := by
  by_cases h : i < s.size
  · cases b : isSm s[i]
    · rw [skipL_no s i h b]; exact Nat.le_refl i
    · rw [skipL_yes s i h b]; have := skipL_ge s (i + 1); omega
  · rw [skipL_end s i h]; exact Nat.le_refl i
termination_by s.size - i
theorem skipB_le (s : ByteArray) (i : Nat) (h0 : i ≤ s.size) : skipB s i ≤ s.size := by
  by_cases h : i < s.size
  · cases b : isBl s[i]
    · rw [skipB_no s i h b]; exact h0
    · rw [skipB_yes s i h b]; exact skipB_le s (i + 1) h
  · rw [skipB_end s i h]; exact h0
termination_by s.size - i
theorem skipL_le (s : ByteArray) (i : Nat) (h0 : i ≤ s.size) : skipL s i ≤ s.size := by
  by_cases h : i < s.size
  · cases b : isSm s[i]
    · rw [skipL_no s i h b]; exact h0
    · rw [skipL_yes s i h b]; exact skipL_le s (i + 1) h
  · rw [skipL_end s i h]; exact h0
termination_by s.size - i

/-- A sign: its kind (119 a word, 107 what stands for itself, 0 the end, 63 none), its text, its place and the place behind it. -/
structure Sg where
  k : Int
  t : ByteArray
  at_ : Nat
  to_ : Nat

def emp : ByteArray := ⟨#[]⟩
def wState : List UInt8 := [115, 116, 97, 116, 101]
def wOn : List UInt8 := [111, 110]
def wIf : List UInt8 := [105, 102]
def wNot : List UInt8 := [110, 111, 116]
def wGo : List UInt8 := [103, 111]
def wDo : List UInt8 := [100, 111]
def wClosed : List UInt8 := [99, 108, 111, 115, 101, 100]
def keptL : List (List UInt8) := [wState, wOn, wIf, wNot, wGo, wDo, wClosed]
def keptFrom (k : Nat) (w : ByteArray) : Bool := (keptL.drop k).any (fun x => x == w.toList)
def kept (w : ByteArray) : Bool := keptFrom 0 w
theorem keptFrom_yes (w : ByteArray) (k : Nat) (l : List UInt8) (e : keptL[k]? = some l) (h : (l == w.toList) = true) : keptFrom k w = true := by
  unfold keptFrom
  obtain ⟨hk, e⟩ := List.getElem?_eq_some_iff.1 e
  rw [List.drop_eq_getElem_cons hk, e]; simp only [List.any_cons, h, Bool.true_or]
theorem keptFrom_no (w : ByteArray) (k : Nat) (l : List UInt8) (e : keptL[k]? = some l) (h : (l == w.toList) = false) : keptFrom (k + 1) w = keptFrom k w := by
  unfold keptFrom
  obtain ⟨hk, e⟩ := List.getElem?_eq_some_iff.1 e
  rw [List.drop_eq_getElem_cons hk, e]; simp only [List.any_cons, h, Bool.false_or]
theorem keptFrom_end (w : ByteArray) : keptFrom 7 w = false := rfl

def is4 (c : UInt8) : Bool := ((c.toNat : Int) == 123) || ((c.toNat : Int) == 125) || ((c.toNat : Int) == 44) || ((c.toNat : Int) == 59)

/-- The sign at a place where no blank stands; k: the place behind the letters there. -/
def signOf (s : ByteArray) (i k : Nat) : Sg :=
  if h : i < s.size then
    if k = i then
      (if is4 s[i] = true then ⟨107, s.extract i (i + 1), i, i + 1⟩ else ⟨63, emp, i, i⟩)
    else if kept (s.extract i k) = true then ⟨107, s.extract i k, i, k⟩
    else if 8 < k - i then ⟨63, emp, i, i⟩
    else ⟨119, s.extract i k, i, k⟩
  else ⟨0, emp, s.size, s.size⟩

def signAt (s : ByteArray) (i : Nat) : Sg := signOf s (skipB s i) (skipL s (skipB s i))

theorem signAt_of (s : ByteArray) (i k : Nat) (h : skipB s k = skipB s i) (e : skipB s k = k) : signAt s i = signOf s k (skipL s k) := by
  unfold signAt; rw [← h, e]
theorem signOf_end (s : ByteArray) (i k : Nat) (h : ¬ i < s.size) : signOf s i k = ⟨0, emp, s.size, s.size⟩ := by
  unfold signOf; rw [dif_neg h]
theorem signOf_one (s : ByteArray) (i : Nat) (h : i < s.size) (b : is4 s[i] = true) : signOf s i i = ⟨107, s.extract i (i + 1), i, i + 1⟩ := by
  unfold signOf; rw [dif_pos h, if_pos rfl, if_pos b]
theorem signOf_none (s : ByteArray) (i : Nat) (h : i < s.size) (b : is4 s[i] = false) : signOf s i i = ⟨63, emp, i, i⟩ := by
  unfold signOf; rw [dif_pos h, if_pos rfl, if_neg (by simp [b])]
theorem signOf_kept (s : ByteArray) (i k : Nat) (h : i < s.size) (n : ¬ k = i) (b : kept (s.extract i k) = true) : signOf s i k = ⟨107, s.extract i k, i, k⟩ := by
  unfold signOf; rw [dif_pos h, if_neg n, if_pos b]
theorem signOf_long (s : ByteArray) (i k : Nat) (h : i < s.size) (n : ¬ k = i) (b : kept (s.extract i k) = false) (l : 8 < k - i) : signOf s i k = ⟨63, emp, i, i⟩ := by
  unfold signOf; rw [dif_pos h, if_neg n, if_neg (by simp [b]), if_pos l]
theorem signOf_word (s : ByteArray) (i k : Nat) (h : i < s.size) (n : ¬ k = i) (b : kept (s.extract i k) = false) (l : ¬ 8 < k - i) : signOf s i k = ⟨119, s.extract i k, i, k⟩ := by
  unfold signOf; rw [dif_pos h, if_neg n, if_neg (by simp [b]), if_neg l]

end Go.Proofs.YtcijookbgliglaaDoor.Pm

/- The plain mathematics of the pen: a sign that is looked at, and the place of the first fault (below 0: none yet). -/
namespace Go.Proofs.YtcijookbgliglaaDoor.Pm

structure Pn where
  g : Sg
  bad : Int

def sg0 : Sg := ⟨0, emp, 0, 0⟩
def on (p : Pn) (t : List UInt8) : Bool := decide (p.bad < 0) && (p.g.k == 107) && (p.g.t.toList == t)
def next (s : ByteArray) (p : Pn) : Pn := if p.bad < 0 then ⟨signAt s p.g.to_, p.bad⟩ else p
def fail (p : Pn) : Pn := if p.bad < 0 then ⟨p.g, (p.g.at_ : Int)⟩ else p
def need (s : ByteArray) (p : Pn) (t : List UInt8) : Sg × Pn := if on p t = true then (p.g, next s p) else (sg0, fail p)
def isW (p : Pn) : Bool := decide (p.bad < 0) && (p.g.k == 119)
def word (s : ByteArray) (p : Pn) : Sg × Pn := if isW p = true then (p.g, next s p) else (sg0, fail p)
def more (s : ByteArray) (p : Pn) : Bool × Pn := if on p [44] = true then (true, next s p) else (false, p)

theorem on_no (p : Pn) (t : List UInt8) (h : ¬ p.bad < 0) : on p t = false := by unfold on; simp [h]
theorem fail_yes (p : Pn) (h : p.bad < 0) : fail p = ⟨p.g, (p.g.at_ : Int)⟩ := by unfold fail; rw [if_pos h]
theorem fail_no (p : Pn) (h : ¬ p.bad < 0) : fail p = p := by unfold fail; rw [if_neg h]
theorem next_yes (s : ByteArray) (p : Pn) (h : p.bad < 0) : next s p = ⟨signAt s p.g.to_, p.bad⟩ := by unfold next; rw [if_pos h]
theorem next_no (s : ByteArray) (p : Pn) (h : ¬ p.bad < 0) : next s p = p := by unfold next; rw [if_neg h]
theorem need_yes (s : ByteArray) (p : Pn) (t : List UInt8) (h : on p t = true) : need s p t = (p.g, next s p) := by unfold need; rw [if_pos h]
theorem need_no (s : ByteArray) (p : Pn) (t : List UInt8) (h : on p t = false) : need s p t = (sg0, fail p) := by unfold need; rw [if_neg (by simp [h])]
theorem word_yes (s : ByteArray) (p : Pn) (h : isW p = true) : word s p = (p.g, next s p) := by unfold word; rw [if_pos h]
theorem word_no (s : ByteArray) (p : Pn) (h : isW p = false) : word s p = (sg0, fail p) := by unfold word; rw [if_neg (by simp [h])]
theorem more_yes (s : ByteArray) (p : Pn) (h : on p [44] = true) : more s p = (true, next s p) := by unfold more; rw [if_pos h]
theorem more_no (s : ByteArray) (p : Pn) (h : on p [44] = false) : more s p = (false, p) := by unfold more; rw [if_neg (by simp [h])]

theorem signOf_to_le (s : ByteArray) (i k : Nat) (hi : i ≤ s.size) (hk : k ≤ s.size) (_hik : i ≤ k) : (signOf s i k).to_ ≤ s.size := by
  unfold signOf
  repeat' split
  all_goals simp
  all_goals omega
theorem signAt_to_le (s : ByteArray) (i : Nat) (hi : i ≤ s.size) : (signAt s i).to_ ≤ s.size :=
  signOf_to_le s _ _ (skipB_le s i hi) (skipL_le s _ (skipB_le s i hi)) (skipL_ge s _)

/-- The pen looks at a sign of the text. -/
def ok (s : ByteArray) (p : Pn) : Prop := p.g.to_ ≤ s.size
theorem next_ok (s : ByteArray) (p : Pn) (h : ok s p) : ok s (next s p) := by
  unfold next; split
  · exact signAt_to_le s _ h
  · exact h
theorem fail_ok (s : ByteArray) (p : Pn) (h : ok s p) : ok s (fail p) := by
  unfold fail; split <;> exact h
theorem need_ok (s : ByteArray) (p : Pn) (t : List UInt8) (h : ok s p) : ok s (need s p t).2 := by
  unfold need; split
  · exact next_ok s p h
  · exact fail_ok s p h
theorem word_ok (s : ByteArray) (p : Pn) (h : ok s p) : ok s (word s p).2 := by
  unfold word; split
  · exact next_ok s p h
  · exact fail_ok s p h
theorem more_ok (s : ByteArray) (p : Pn) (h : ok s p) : ok s (more s p).2 := by
  unfold more; split
  · exact next_ok s p h
  · exact h

end Go.Proofs.YtcijookbgliglaaDoor.Pm

/- The plain mathematics of rules, states and texts as the pen reads them. -/
namespace Go.Proofs.YtcijookbgliglaaDoor.Pm

structure Gd where
  word : ByteArray
  not : Bool
  at_ : Nat
structure Ac where
  word : ByteArray
  at_ : Nat
structure Rl where
  at_ : Nat
  event : ByteArray
  eventAt : Nat
  guards : List Gd
  goal : ByteArray
  to_ : Nat
  actions : List Ac
structure St where
  at_ : Nat
  name : ByteArray
  nameAt : Nat
  rules : List Rl

/-- A sign that may be there: is it, and the pen behind it. -/
def skip (s : ByteArray) (p : Pn) (t : List UInt8) : Bool × Pn := if on p t = true then (true, next s p) else (false, p)
theorem skip_yes (s : ByteArray) (p : Pn) (t : List UInt8) (h : on p t = true) : skip s p t = (true, next s p) := by unfold skip; rw [if_pos h]
theorem skip_no (s : ByteArray) (p : Pn) (t : List UInt8) (h : on p t = false) : skip s p t = (false, p) := by unfold skip; rw [if_neg (by simp [h])]
theorem more_skip (s : ByteArray) (p : Pn) : more s p = skip s p [44] := rfl
theorem skip_fst (s : ByteArray) (p : Pn) (t : List UInt8) : (skip s p t).1 = on p t := by
  cases h : on p t
  · rw [skip_no s p t h]
  · rw [skip_yes s p t h]
theorem skip_noEq {s : ByteArray} {p q : Pn} {t : List UInt8} (h : skip s p t = (false, q)) : q = p := by
  unfold skip at h; split at h
  · simp at h
  · simp at h; exact h.symm
theorem skip_yesEq {s : ByteArray} {p q : Pn} {t : List UInt8} (h : skip s p t = (true, q)) : next s p = q := by
  unfold skip at h; split at h
  · simp at h; exact h
  · simp at h
theorem skip_ok (s : ByteArray) (p : Pn) (t : List UInt8) (h : ok s p) : ok s (skip s p t).2 := by
  unfold skip; split
  · exact next_ok s p h
  · exact h

/-- One guard, and whether a comma stands behind it. -/
def guard1 (s : ByteArray) (p : Pn) : Gd × Bool × Pn :=
  (⟨(word s (skip s p wNot).2).1.t, (skip s p wNot).1, (word s (skip s p wNot).2).1.at_⟩, skip s (word s (skip s p wNot).2).2 [44])
def guardL (s : ByteArray) : Nat → Bool → Pn → List Gd × Pn
  | _, false, p => ([], p)
  | 0, true, p => ([], p)
  | n + 1, true, p => ((guard1 s p).1 :: (guardL s n (guard1 s p).2.1 (guard1 s p).2.2).1, (guardL s n (guard1 s p).2.1 (guard1 s p).2.2).2)
def act1 (s : ByteArray) (p : Pn) : Ac × Bool × Pn :=
  (⟨(word s p).1.t, (word s p).1.at_⟩, skip s (word s p).2 [44])
def actL (s : ByteArray) : Nat → Bool → Pn → List Ac × Pn
  | _, false, p => ([], p)
  | 0, true, p => ([], p)
  | n + 1, true, p => ((act1 s p).1 :: (actL s n (act1 s p).2.1 (act1 s p).2.2).1, (actL s n (act1 s p).2.1 (act1 s p).2.2).2)

theorem drop_step {α : Type} {l : List α} {n : Nat} {x : α} {t : List α} (h : l.drop n = x :: t) : l.drop (n + 1) = t := by
  have := congrArg (List.drop 1) h
  simpa [List.drop_drop] using this
theorem guardL_step {s : ByteArray} {n : Nat} {q q4 r : Pn} {l : List Gd} {x : Gd} {m : Bool} (h : guardL s (n + 1) true q = (l, q4)) (hg : guard1 s q = (x, m, r)) : ∃ t, l = x :: t ∧ guardL s n m r = (t, q4) := by
  unfold guardL at h
  rw [hg] at h
  simp only [Prod.mk.injEq] at h
  exact ⟨_, h.1.symm, Prod.ext rfl h.2⟩
theorem actL_step {s : ByteArray} {n : Nat} {q q4 r : Pn} {l : List Ac} {x : Ac} {m : Bool} (h : actL s (n + 1) true q = (l, q4)) (hg : act1 s q = (x, m, r)) : ∃ t, l = x :: t ∧ actL s n m r = (t, q4) := by
  unfold actL at h
  rw [hg] at h
  simp only [Prod.mk.injEq] at h
  exact ⟨_, h.1.symm, Prod.ext rfl h.2⟩
theorem guardL_stop {s : ByteArray} {n : Nat} {q q4 : Pn} {l : List Gd} (h : guardL s n false q = (l, q4)) : l = [] ∧ q4 = q := by
  unfold guardL at h
  simp only [Prod.mk.injEq] at h
  exact ⟨h.1.symm, h.2.symm⟩
theorem actL_stop {s : ByteArray} {n : Nat} {q q4 : Pn} {l : List Ac} (h : actL s n false q = (l, q4)) : l = [] ∧ q4 = q := by
  unfold actL at h
  simp only [Prod.mk.injEq] at h
  exact ⟨h.1.symm, h.2.symm⟩

/-- A goal. -/
def goal1 (s : ByteArray) (p : Pn) : Sg × Pn := if on p wClosed = true then (p.g, next s p) else word s p

def ruleS1 (s : ByteArray) (p : Pn) : Pn := (need s p wOn).2
def ruleS2 (s : ByteArray) (p : Pn) : Pn := (word s (ruleS1 s p)).2
def ruleS3 (s : ByteArray) (p : Pn) : Bool × Pn := skip s (ruleS2 s p) wIf
def ruleS4 (s : ByteArray) (p : Pn) : List Gd × Pn := guardL s (s.size + 1) (ruleS3 s p).1 (ruleS3 s p).2
def ruleS5 (s : ByteArray) (p : Pn) : Pn := (need s (ruleS4 s p).2 wGo).2
def ruleS6 (s : ByteArray) (p : Pn) : Sg × Pn := goal1 s (ruleS5 s p)
def ruleS7 (s : ByteArray) (p : Pn) : Bool × Pn := skip s (ruleS6 s p).2 wDo
def ruleS8 (s : ByteArray) (p : Pn) : List Ac × Pn := actL s (s.size + 1) (ruleS7 s p).1 (ruleS7 s p).2
def rule (s : ByteArray) (p : Pn) : Rl × Pn :=
  (⟨(need s p wOn).1.at_, (word s (ruleS1 s p)).1.t, (word s (ruleS1 s p)).1.at_, (ruleS4 s p).1, (ruleS6 s p).1.t, (ruleS6 s p).1.at_, (ruleS8 s p).1⟩, (need s (ruleS8 s p).2 [59]).2)

theorem rule_of {s : ByteArray} {p q1 q2 q3 q4 q5 q6 q7 q8 q9 : Pn} {g1 g2 g5 g6 g9 : Sg} {h3 h7 : Bool} {gs4 : List Gd} {as8 : List Ac}
    (n1 : need s p wOn = (g1, q1)) (n2 : word s q1 = (g2, q2)) (n3 : skip s q2 wIf = (h3, q3)) (n4 : guardL s (s.size + 1) h3 q3 = (gs4, q4)) (n5 : need s q4 wGo = (g5, q5)) (n6 : goal1 s q5 = (g6, q6))
    (n7 : skip s q6 wDo = (h7, q7)) (n8 : actL s (s.size + 1) h7 q7 = (as8, q8)) (n9 : need s q8 [59] = (g9, q9)) :
    rule s p = (⟨g1.at_, g2.t, g2.at_, gs4, g6.t, g6.at_, as8⟩, q9) := by
  simp only [rule, ruleS8, ruleS7, ruleS6, ruleS5, ruleS4, ruleS3, ruleS2, ruleS1, n1, n2, n3, n4, n5, n6, n7, n8, n9]

/-- Signs lie forward. -/
theorem signOf_to_ge (s : ByteArray) (i k : Nat) (hi : i ≤ s.size) (hik : i ≤ k) : i ≤ (signOf s i k).to_ := by
  unfold signOf
  repeat' split
  all_goals simp
  all_goals omega
theorem signAt_to_ge (s : ByteArray) (i : Nat) (hi : i ≤ s.size) : i ≤ (signAt s i).to_ :=
  Nat.le_trans (skipB_ge s i) (signOf_to_ge s _ _ (skipB_le s i hi) (skipL_ge s _))
theorem signOf_to_gt (s : ByteArray) (i k : Nat) (hik : i ≤ k) (h : (signOf s i k).k = 107 ∨ (signOf s i k).k = 119) : i < (signOf s i k).to_ := by
  unfold signOf at h ⊢
  repeat' split
  all_goals simp_all
  all_goals omega
theorem signAt_to_gt (s : ByteArray) (i : Nat) (h : (signAt s i).k = 107 ∨ (signAt s i).k = 119) : i < (signAt s i).to_ :=
  Nat.lt_of_le_of_lt (skipB_ge s i) (signOf_to_gt s _ _ (skipL_ge s _) h)
theorem on_bad {p : Pn} {t : List UInt8} (h : on p t = true) : p.bad < 0 ∧ p.g.k = 107 := by
  unfold on at h; simp at h; exact ⟨h.1.1, h.1.2⟩
theorem next_to_ge (s : ByteArray) (p : Pn) (h : ok s p) : p.g.to_ ≤ (next s p).g.to_ := by
  unfold next; split
  · exact signAt_to_ge s _ h
  · exact Nat.le_refl _
theorem skip_to_ge (s : ByteArray) (p : Pn) (t : List UInt8) (h : ok s p) : p.g.to_ ≤ (skip s p t).2.g.to_ := by
  unfold skip; split
  · exact next_to_ge s p h
  · exact Nat.le_refl _
theorem fail_bad (p : Pn) : 0 ≤ (fail p).bad := by
  unfold fail; split
  · simp
  · omega
/-- Behind a word that was there a comma lies further on. -/
theorem word_more (s : ByteArray) (p : Pn) (t : List UInt8) (h : ok s p) (hm : (skip s (word s p).2 t).1 = true) : p.g.to_ < (skip s (word s p).2 t).2.g.to_ := by
  rw [skip_fst] at hm
  obtain ⟨hb, hk⟩ := on_bad hm
  cases hw : isW p
  · rw [word_no s p hw] at hb; have := fail_bad p; simp at hb; omega
  · rw [skip_yes s _ t hm]
    have hok := word_ok s p h
    have h2 := next_to_ge s (word s p).2 hok
    rw [word_yes s p hw] at hk h2 ⊢
    have hp : p.bad < 0 := by unfold isW at hw; simp at hw; exact hw.1
    rw [next_yes s p hp] at hk h2 ⊢
    have := signAt_to_gt s p.g.to_ (Or.inl hk)
    simp at h2 ⊢
    omega
theorem guard1_ok (s : ByteArray) (p : Pn) (h : ok s p) : ok s (guard1 s p).2.2 := skip_ok s _ _ (word_ok s _ (skip_ok s p _ h))
theorem act1_ok (s : ByteArray) (p : Pn) (h : ok s p) : ok s (act1 s p).2.2 := skip_ok s _ _ (word_ok s _ h)
theorem guard1_more (s : ByteArray) (p : Pn) (h : ok s p) (hm : (guard1 s p).2.1 = true) : p.g.to_ < (guard1 s p).2.2.g.to_ :=
  Nat.lt_of_le_of_lt (skip_to_ge s p _ h) (word_more s _ _ (skip_ok s p _ h) hm)
theorem act1_more (s : ByteArray) (p : Pn) (h : ok s p) (hm : (act1 s p).2.1 = true) : p.g.to_ < (act1 s p).2.2.g.to_ := word_more s _ _ h hm
theorem guardL_ok (s : ByteArray) : ∀ (n : Nat) (b : Bool) (p : Pn), ok s p → ok s (guardL s n b p).2
  | _, false, _, h => by unfold guardL; exact h
  | 0, true, _, h => by unfold guardL; exact h
  | n + 1, true, p, h => by unfold guardL; exact guardL_ok s n _ _ (guard1_ok s p h)
theorem actL_ok (s : ByteArray) : ∀ (n : Nat) (b : Bool) (p : Pn), ok s p → ok s (actL s n b p).2
  | _, false, _, h => by unfold actL; exact h
  | 0, true, _, h => by unfold actL; exact h
  | n + 1, true, p, h => by unfold actL; exact actL_ok s n _ _ (act1_ok s p h)
theorem goal1_no {s : ByteArray} {p : Pn} {r : Sg × Pn} (h : goal1 s p = r) (c : on p wClosed = false) : word s p = r := by
  unfold goal1 at h; rw [if_neg (by simp [c])] at h; exact h
theorem goal1_yes {s : ByteArray} {p q : Pn} {g : Sg} (h : goal1 s p = (g, q)) (c : on p wClosed = true) : p.g = g ∧ next s p = q := by
  unfold goal1 at h; rw [if_pos c] at h; simp at h; exact h
theorem goal1_ok (s : ByteArray) (p : Pn) (h : ok s p) : ok s (goal1 s p).2 := by
  unfold goal1; split
  · exact next_ok s p h
  · exact word_ok s p h
theorem ruleS1_ok (s : ByteArray) (p : Pn) (h : ok s p) : ok s (ruleS1 s p) := need_ok s p _ h
theorem ruleS2_ok (s : ByteArray) (p : Pn) (h : ok s p) : ok s (ruleS2 s p) := word_ok s _ (ruleS1_ok s p h)
theorem ruleS3_ok (s : ByteArray) (p : Pn) (h : ok s p) : ok s (ruleS3 s p).2 := skip_ok s _ _ (ruleS2_ok s p h)
theorem ruleS4_ok (s : ByteArray) (p : Pn) (h : ok s p) : ok s (ruleS4 s p).2 := guardL_ok s _ _ _ (ruleS3_ok s p h)
theorem ruleS5_ok (s : ByteArray) (p : Pn) (h : ok s p) : ok s (ruleS5 s p) := need_ok s _ _ (ruleS4_ok s p h)
theorem ruleS6_ok (s : ByteArray) (p : Pn) (h : ok s p) : ok s (ruleS6 s p).2 := goal1_ok s _ (ruleS5_ok s p h)
theorem ruleS7_ok (s : ByteArray) (p : Pn) (h : ok s p) : ok s (ruleS7 s p).2 := skip_ok s _ _ (ruleS6_ok s p h)
theorem ruleS8_ok (s : ByteArray) (p : Pn) (h : ok s p) : ok s (ruleS8 s p).2 := actL_ok s _ _ _ (ruleS7_ok s p h)
theorem rule_ok (s : ByteArray) (p : Pn) (h : ok s p) : ok s (rule s p).2 := need_ok s _ _ (ruleS8_ok s p h)

end Go.Proofs.YtcijookbgliglaaDoor.Pm

/- The plain mathematics of states and whole texts. -/
namespace Go.Proofs.YtcijookbgliglaaDoor.Pm

def rulesL (s : ByteArray) : Nat → Pn → List Rl × Pn
  | 0, p => ([], p)
  | n + 1, p => if on p wOn = true then ((rule s p).1 :: (rulesL s n (rule s p).2).1, (rulesL s n (rule s p).2).2) else ([], p)
def stateA (s : ByteArray) (p : Pn) : Pn := (word s (need s p wState).2).2
def stateB (s : ByteArray) (p : Pn) : Pn := (need s (stateA s p) [123]).2
def stateC (s : ByteArray) (p : Pn) : List Rl × Pn := rulesL s (s.size + 1) (stateB s p)
def state1 (s : ByteArray) (p : Pn) : St × Pn :=
  (⟨(need s p wState).1.at_, (word s (need s p wState).2).1.t, (word s (need s p wState).2).1.at_, (stateC s p).1⟩, (need s (stateC s p).2 [125]).2)
def again (p : Pn) : Bool := decide (p.bad < 0) && (p.g.k != 0)
def statesL (s : ByteArray) : Nat → Bool → Pn → List St × Pn
  | _, false, p => ([], p)
  | 0, true, p => ([], p)
  | n + 1, true, p => ((state1 s p).1 :: (statesL s n (again (state1 s p).2) (state1 s p).2).1, (statesL s n (again (state1 s p).2) (state1 s p).2).2)
def readL (s : ByteArray) : List St × Pn := statesL s (s.size + 1) true ⟨signAt s 0, -1⟩

theorem rulesL_yes {s : ByteArray} {n : Nat} {p q p1 : Pn} {l : List Rl} {r : Rl} (h : rulesL s (n + 1) p = (l, q)) (o : on p wOn = true) (hr : rule s p = (r, p1)) : ∃ t, l = r :: t ∧ rulesL s n p1 = (t, q) := by
  unfold rulesL at h
  rw [if_pos o, hr] at h
  simp only [Prod.mk.injEq] at h
  exact ⟨_, h.1.symm, Prod.ext rfl h.2⟩
theorem rulesL_no {s : ByteArray} {n : Nat} {p q : Pn} {l : List Rl} (h : rulesL s n p = (l, q)) (o : on p wOn = false) : l = [] ∧ q = p := by
  cases n with
  | zero => unfold rulesL at h; simp only [Prod.mk.injEq] at h; exact ⟨h.1.symm, h.2.symm⟩
  | succ n =>
    unfold rulesL at h
    rw [if_neg (by simp [o])] at h
    simp only [Prod.mk.injEq] at h; exact ⟨h.1.symm, h.2.symm⟩
theorem statesL_step {s : ByteArray} {n : Nat} {p q p1 : Pn} {l : List St} {x : St} {m : Bool} (h : statesL s (n + 1) true p = (l, q)) (hx : state1 s p = (x, p1)) (hm : again p1 = m) : ∃ t, l = x :: t ∧ statesL s n m p1 = (t, q) := by
  unfold statesL at h
  rw [hx] at h
  simp only [hm, Prod.mk.injEq] at h
  exact ⟨_, h.1.symm, Prod.ext rfl h.2⟩
theorem statesL_stop {s : ByteArray} {n : Nat} {p q : Pn} {l : List St} (h : statesL s n false p = (l, q)) : l = [] ∧ q = p := by
  unfold statesL at h
  simp only [Prod.mk.injEq] at h; exact ⟨h.1.symm, h.2.symm⟩
theorem state_of {s : ByteArray} {p q1 q2 q3 q4 q5 : Pn} {g1 g2 g3 g5 : Sg} {rs : List Rl} (n1 : need s p wState = (g1, q1)) (n2 : word s q1 = (g2, q2)) (n3 : need s q2 [123] = (g3, q3)) (n4 : rulesL s (s.size + 1) q3 = (rs, q4)) (n5 : need s q4 [125] = (g5, q5)) :
    state1 s p = (⟨g1.at_, g2.t, g2.at_, rs⟩, q5) := by
  simp only [state1, stateC, stateB, stateA, n1, n2, n3, n4, n5]

/-- The sign that is looked at was read at place i or behind it; or there is a fault. -/
def From (s : ByteArray) (i : Nat) (p : Pn) : Prop := 0 ≤ p.bad ∨ ∃ j, i ≤ j ∧ j ≤ s.size ∧ p.g = signAt s j
theorem From.mono {s : ByteArray} {i i' : Nat} {p : Pn} (h : From s i p) (hi : i' ≤ i) : From s i' p := by
  rcases h with h | ⟨j, h1, h2, h3⟩
  · exact .inl h
  · exact .inr ⟨j, by omega, h2, h3⟩
theorem From.ge {s : ByteArray} {i : Nat} {p : Pn} (h : From s i p) (hb : p.bad < 0) : i ≤ p.g.to_ := by
  rcases h with h | ⟨j, h1, h2, h3⟩
  · omega
  · rw [h3]; have := signAt_to_ge s j h2; omega
theorem From.gt {s : ByteArray} {i : Nat} {p : Pn} {t : List UInt8} (h : From s i p) (ho : on p t = true) : i < p.g.to_ := by
  obtain ⟨hb, hk⟩ := on_bad ho
  rcases h with h | ⟨j, h1, h2, h3⟩
  · omega
  · rw [h3] at hk ⊢; have := signAt_to_gt s j (Or.inl hk); omega
theorem next_from (s : ByteArray) (p : Pn) (h : ok s p) (hb : p.bad < 0) : From s p.g.to_ (next s p) := by
  rw [next_yes s p hb]; exact .inr ⟨_, Nat.le_refl _, h, rfl⟩
theorem fail_from (s : ByteArray) (p : Pn) (i : Nat) : From s i (fail p) := .inl (fail_bad p)
theorem need_from (s : ByteArray) (p : Pn) (t : List UInt8) (h : ok s p) : From s p.g.to_ (need s p t).2 := by
  cases ho : on p t
  · rw [need_no s p t ho]; exact fail_from s p _
  · rw [need_yes s p t ho]; exact next_from s p h (on_bad ho).1
theorem isW_bad {p : Pn} (h : isW p = true) : p.bad < 0 ∧ p.g.k = 119 := by
  unfold isW at h; simp at h; exact h
theorem word_from (s : ByteArray) (p : Pn) (h : ok s p) : From s p.g.to_ (word s p).2 := by
  cases ho : isW p
  · rw [word_no s p ho]; exact fail_from s p _
  · rw [word_yes s p ho]; exact next_from s p h (isW_bad ho).1
/-- Whatever must be there: behind it the pen is as far as it was, or there is a fault. -/
theorem From.need {s : ByteArray} {i : Nat} {p : Pn} (h : From s i p) (t : List UInt8) (hk : ok s p) : From s i (need s p t).2 := by
  by_cases hb : p.bad < 0
  · exact (need_from s p t hk).mono (h.ge hb)
  · rw [need_no s p t (on_no p t hb), fail_no p hb]; exact h
theorem From.word {s : ByteArray} {i : Nat} {p : Pn} (h : From s i p) (hk : ok s p) : From s i (word s p).2 := by
  by_cases hb : p.bad < 0
  · exact (word_from s p hk).mono (h.ge hb)
  · rw [word_no s p (by unfold isW; simp [hb]), fail_no p hb]; exact h
theorem From.skip {s : ByteArray} {i : Nat} {p : Pn} (h : From s i p) (t : List UInt8) (hk : ok s p) : From s i (skip s p t).2 := by
  cases ho : on p t
  · rw [skip_no s p t ho]; exact h
  · rw [skip_yes s p t ho]; exact (next_from s p hk (on_bad ho).1).mono (h.ge (on_bad ho).1)
theorem From.goal1 {s : ByteArray} {i : Nat} {p : Pn} (h : From s i p) (hk : ok s p) : From s i (goal1 s p).2 := by
  unfold Pm.goal1; split
  · rename_i ho; exact (next_from s p hk (on_bad ho).1).mono (h.ge (on_bad ho).1)
  · exact h.word hk
theorem From.guardL {s : ByteArray} {i : Nat} : ∀ (n : Nat) (b : Bool) (p : Pn), From s i p → ok s p → From s i (guardL s n b p).2
  | _, false, _, h, _ => by unfold Pm.guardL; exact h
  | 0, true, _, h, _ => by unfold Pm.guardL; exact h
  | n + 1, true, p, h, hk => by
    unfold Pm.guardL
    refine From.guardL n _ _ ?_ (guard1_ok s p hk)
    exact ((h.skip _ hk).word (skip_ok s p _ hk)).skip _ (word_ok s _ (skip_ok s p _ hk))
theorem From.actL {s : ByteArray} {i : Nat} : ∀ (n : Nat) (b : Bool) (p : Pn), From s i p → ok s p → From s i (actL s n b p).2
  | _, false, _, h, _ => by unfold Pm.actL; exact h
  | 0, true, _, h, _ => by unfold Pm.actL; exact h
  | n + 1, true, p, h, hk => by
    unfold Pm.actL
    refine From.actL n _ _ ?_ (act1_ok s p hk)
    exact (h.word hk).skip _ (word_ok s _ hk)
theorem rule_from (s : ByteArray) (p : Pn) (hk : ok s p) : From s p.g.to_ (rule s p).2 := by
  have h1 : From s p.g.to_ (ruleS1 s p) := need_from s p _ hk
  have h2 : From s p.g.to_ (ruleS2 s p) := h1.word (ruleS1_ok s p hk)
  have h3 : From s p.g.to_ (ruleS3 s p).2 := h2.skip _ (ruleS2_ok s p hk)
  have h4 : From s p.g.to_ (ruleS4 s p).2 := From.guardL _ _ _ h3 (ruleS3_ok s p hk)
  have h5 : From s p.g.to_ (ruleS5 s p) := h4.need _ (ruleS4_ok s p hk)
  have h6 : From s p.g.to_ (ruleS6 s p).2 := h5.goal1 (ruleS5_ok s p hk)
  have h7 : From s p.g.to_ (ruleS7 s p).2 := h6.skip _ (ruleS6_ok s p hk)
  have h8 : From s p.g.to_ (ruleS8 s p).2 := From.actL _ _ _ h7 (ruleS7_ok s p hk)
  exact h8.need _ (ruleS8_ok s p hk)
theorem From.rule {s : ByteArray} {i : Nat} {p : Pn} (h : From s i p) (hk : ok s p) (ho : on p wOn = true) : From s i (rule s p).2 := (rule_from s p hk).mono (h.ge (on_bad ho).1)
theorem From.rulesL {s : ByteArray} {i : Nat} : ∀ (n : Nat) (p : Pn), From s i p → ok s p → From s i (rulesL s n p).2
  | 0, _, h, _ => by unfold Pm.rulesL; exact h
  | n + 1, p, h, hk => by
    unfold Pm.rulesL
    split
    · rename_i ho; exact From.rulesL n _ (h.rule hk ho) (rule_ok s p hk)
    · exact h
theorem rulesL_ok (s : ByteArray) : ∀ (n : Nat) (p : Pn), ok s p → ok s (rulesL s n p).2
  | 0, _, h => by unfold rulesL; exact h
  | n + 1, p, h => by
    unfold rulesL
    split
    · exact rulesL_ok s n _ (rule_ok s p h)
    · exact h
theorem stateA_ok (s : ByteArray) (p : Pn) (h : ok s p) : ok s (stateA s p) := word_ok s _ (need_ok s p _ h)
theorem stateB_ok (s : ByteArray) (p : Pn) (h : ok s p) : ok s (stateB s p) := need_ok s _ _ (stateA_ok s p h)
theorem stateC_ok (s : ByteArray) (p : Pn) (h : ok s p) : ok s (stateC s p).2 := rulesL_ok s _ _ (stateB_ok s p h)
theorem state1_ok (s : ByteArray) (p : Pn) (h : ok s p) : ok s (state1 s p).2 := need_ok s _ _ (stateC_ok s p h)
theorem rule_more (s : ByteArray) (p : Pn) (h : ok s p) (ho : on (rule s p).2 wOn = true) : p.g.to_ < (rule s p).2.g.to_ := (rule_from s p h).gt ho
theorem state_more (s : ByteArray) (p : Pn) (h : ok s p) (ho : again (state1 s p).2 = true) : p.g.to_ < (state1 s p).2.g.to_ := by
  have h1 : From s p.g.to_ (need s p wState).2 := need_from s p _ h
  have h2 : From s p.g.to_ (stateA s p) := h1.word (need_ok s p _ h)
  have h3 : From s p.g.to_ (stateB s p) := h2.need _ (stateA_ok s p h)
  have h4 : From s p.g.to_ (stateC s p).2 := From.rulesL _ _ h3 (stateB_ok s p h)
  unfold again at ho
  simp at ho
  have hb : (state1 s p).2.bad < 0 := ho.1
  unfold state1 at hb ⊢
  simp at hb ⊢
  cases hc : on (stateC s p).2 [125]
  · rw [need_no s _ _ hc] at hb; have := fail_bad (stateC s p).2; simp at hb; omega
  · rw [need_yes s _ _ hc]
    have h5 := h4.gt hc
    have h6 := next_to_ge s (stateC s p).2 (stateC_ok s p h)
    simp
    omega

end Go.Proofs.YtcijookbgliglaaDoor.Pm

/- The plain mathematics of the checks. -/
namespace Go.Proofs.YtcijookbgliglaaDoor.Pm

/-- The first answer, from place i on. -/
def seek {α : Type} (f : Nat → α → Option Int) : Nat → List α → Option Int
  | _, [] => none
  | i, x :: t => match f i x with
    | some r => some r
    | none => seek f (i + 1) t
def seekAt {α : Type} (f : Nat → α → Option Int) (l : List α) (i : Nat) : Option Int := seek f i (l.drop i)
theorem seekAt_end {α : Type} (f : Nat → α → Option Int) (l : List α) (i : Nat) (h : l.length ≤ i) : seekAt f l i = none := by
  unfold seekAt; rw [List.drop_eq_nil_of_le h]; rfl
theorem seekAt_yes {α : Type} {f : Nat → α → Option Int} {l : List α} {i : Nat} {r : Int} (h : i < l.length) (hf : f i l[i] = some r) : seekAt f l i = some r := by
  unfold seekAt; rw [List.drop_eq_getElem_cons h]; simp [seek, hf]
theorem seekAt_no {α : Type} {f : Nat → α → Option Int} {l : List α} {i : Nat} (h : i < l.length) (hf : f i l[i] = none) : seekAt f l i = seekAt f l (i + 1) := by
  unfold seekAt; rw [List.drop_eq_getElem_cons h]; simp [seek, hf]
def out (o : Option Int) : Int := o.getD (-1)

def eqB (a b : ByteArray) : Bool := a.toList == b.toList
def nameF (name : ByteArray) : Nat → St → Option Int := fun i x => if eqB x.name name = true then some (i : Int) else none
def whereO (sts : List St) (name : ByteArray) : Option Int := seekAt (nameF name) sts 0
def whereI (sts : List St) (name : ByteArray) : Int := out (whereO sts name)

/-- The last letter ahead of a place; -1: none. -/
def back (s : ByteArray) : Nat → Int
  | 0 => -1
  | i + 1 => if h : i < s.size then (if isSm s[i] = true then (i : Int) else back s i) else back s i
theorem back_zero (s : ByteArray) : back s 0 = -1 := rfl
theorem back_yes (s : ByteArray) (i : Nat) (h : i < s.size) (b : isSm s[i] = true) : back s (i + 1) = i := by
  rw [back]; simp [h, b]
theorem back_no (s : ByteArray) (i : Nat) (h : i < s.size) (b : isSm s[i] = false) : back s (i + 1) = back s i := by
  rw [back]; simp [h, b]
theorem back_bd (s : ByteArray) : ∀ i, -1 ≤ back s i ∧ back s i < i
  | 0 => by simp [back]
  | i + 1 => by
    have := back_bd s i
    rw [back]; repeat' split
    all_goals omega

/-- The first state or rule too many: i states and n rules lie ahead. -/
def manyF (bg : St → Int) : Nat → Nat → List St → Option Int
  | _, _, [] => none
  | i, n, x :: t => if 8 ≤ i then some (bg x) else if h : 24 - n < x.rules.length then some (x.rules[24 - n].at_ : Int) else manyF bg (i + 1) (n + x.rules.length) t
def manyAt (bg : St → Int) (sts : List St) (i n : Nat) : Option Int := manyF bg i n (sts.drop i)
theorem manyAt_end (bg : St → Int) (sts : List St) (i n : Nat) (h : sts.length ≤ i) : manyAt bg sts i n = none := by
  unfold manyAt; rw [List.drop_eq_nil_of_le h]; rfl
theorem manyAt_st (bg : St → Int) (sts : List St) (i n : Nat) (h : i < sts.length) (h8 : 8 ≤ i) : manyAt bg sts i n = some (bg sts[i]) := by
  unfold manyAt; rw [List.drop_eq_getElem_cons h, manyF, if_pos h8]
theorem manyAt_rl (bg : St → Int) (sts : List St) (i n k : Nat) (h : i < sts.length) (h8 : ¬ 8 ≤ i) (hk : k < sts[i].rules.length) (e : n + k = 24) : manyAt bg sts i n = some (sts[i].rules[k].at_ : Int) := by
  have hk' : 24 - n = k := by omega
  unfold manyAt; rw [List.drop_eq_getElem_cons h, manyF, if_neg h8]
  simp only [hk']
  rw [dif_pos hk]
theorem manyAt_no (bg : St → Int) (sts : List St) (i n : Nat) (h : i < sts.length) (h8 : ¬ 8 ≤ i) (hk : n + sts[i].rules.length ≤ 24) : manyAt bg sts i n = manyAt bg sts (i + 1) (n + sts[i].rules.length) := by
  unfold manyAt; rw [List.drop_eq_getElem_cons h, manyF, if_neg h8, dif_neg (by omega)]

theorem eqB_comm (a b : ByteArray) : eqB a b = eqB b a := by
  unfold eqB; rw [Bool.eq_iff_iff]; simp only [beq_iff_eq]; exact ⟨fun h => h.symm, fun h => h.symm⟩
theorem eqB_refl (a : ByteArray) : eqB a a = true := by unfold eqB; simp

/-- Is the word among the first i states' words? -/
def seen (sts : List St) (i : Nat) (name : ByteArray) : Bool := (sts.take i).any (fun y => eqB y.name name)
theorem take_any_succ {α : Type} (f : α → Bool) (l : List α) (i : Nat) (h : i < l.length) : (l.take (i + 1)).any f = ((l.take i).any f || f l[i]) := by
  rw [List.take_succ_eq_append_getElem h]; simp only [List.any_append, List.any_cons, List.any_nil, Bool.or_false]
theorem take_all_succ {α : Type} (f : α → Bool) (l : List α) (i : Nat) (h : i < l.length) : (l.take (i + 1)).all f = ((l.take i).all f && f l[i]) := by
  rw [List.take_succ_eq_append_getElem h]; simp only [List.all_append, List.all_cons, List.all_nil, Bool.and_true]
theorem where_ge (sts : List St) (name : ByteArray) : ∀ (n k : Nat), sts.length - k = n → (seekAt (nameF name) sts k = none ∨ ∃ r : Nat, k ≤ r ∧ seekAt (nameF name) sts k = some (r : Int))
  | 0, k, h => .inl (seekAt_end _ _ _ (by omega))
  | n + 1, k, h => by
    have hk : k < sts.length := by omega
    cases he : eqB sts[k].name name
    · have hs := seekAt_no (f := nameF name) hk (by simp [nameF, he])
      rw [hs]
      rcases where_ge sts name n (k + 1) (by omega) with h1 | ⟨r, h1, h2⟩
      · exact .inl h1
      · exact .inr ⟨r, by omega, h2⟩
    · exact .inr ⟨k, Nat.le_refl _, seekAt_yes (f := nameF name) hk (by simp [nameF, he])⟩
theorem where_seen (sts : List St) (i : Nat) (hi : i < sts.length) (name : ByteArray) (hn : eqB sts[i].name name = true) : ∀ (n k : Nat), i - k = n → k ≤ i → (sts.take k).any (fun y => eqB y.name name) = false →
    ∃ r : Nat, seekAt (nameF name) sts k = some (r : Int) ∧ (decide (r < i) = seen sts i name)
  | 0, k, h, hk, hs => by
    have : k = i := by omega
    subst this
    refine ⟨k, seekAt_yes (f := nameF name) hi (by simp [nameF, hn]), ?_⟩
    simp [seen, hs]
  | n + 1, k, h, hk, hs => by
    have hkl : k < sts.length := by omega
    cases he : eqB sts[k].name name
    · rw [seekAt_no (f := nameF name) hkl (by simp [nameF, he])]
      exact where_seen sts i hi name hn n (k + 1) (by omega) (by omega) (by rw [take_any_succ _ _ _ hkl, hs, he]; rfl)
    · refine ⟨k, seekAt_yes (f := nameF name) hkl (by simp [nameF, he]), ?_⟩
      have hlt : k < i := by omega
      have hse : seen sts i name = true := by
        unfold seen
        rw [List.any_eq_true]
        exact ⟨sts[k], by rw [List.mem_take_iff_getElem]; exact ⟨k, by omega, rfl⟩, he⟩
      simp [hlt, hse]
theorem where_lt (sts : List St) (i : Nat) (hi : i < sts.length) : (decide (whereI sts sts[i].name < (i : Int))) = seen sts i sts[i].name := by
  obtain ⟨r, h1, h2⟩ := where_seen sts i hi sts[i].name (eqB_refl _) i 0 rfl (by omega) (by simp)
  unfold whereI whereO
  rw [h1, ← h2]
  simp [out]

/-- A guard whose word an earlier one has. -/
def gdF (gs : List Gd) : Nat → Gd → Option Int := fun i g => if (gs.take i).any (fun h => eqB g.word h.word) = true then some (g.at_ : Int) else none
def twiceG (gs : List Gd) : Option Int := seekAt (gdF gs) gs 0
def rlF2 : Nat → Rl → Option Int := fun _ r => twiceG r.guards
def stF2 (sts : List St) : Nat → St → Option Int := fun i x => if seen sts i x.name = true then some (x.nameAt : Int) else seekAt rlF2 x.rules 0
def doubledO (sts : List St) : Option Int := seekAt (stF2 sts) sts 0

/-- A goal that is no state. -/
def rlF3 (sts : List St) : Nat → Rl → Option Int := fun _ r => if (!(r.goal.toList == wClosed) && decide (whereI sts r.goal < 0)) = true then some (r.to_ : Int) else none
def stF3 (sts : List St) : Nat → St → Option Int := fun _ x => seekAt (rlF3 sts) x.rules 0
def goallessO (sts : List St) : Option Int := seekAt (stF3 sts) sts 0

/-- A rule that is never taken. -/
def gdIn (g : Gd) (gs : List Gd) : Bool := gs.any (fun h => eqB g.word h.word && (g.not == h.not))
def within (a b : Rl) : Bool := a.guards.all (fun g => gdIn g b.guards)
def rlF4 (rs : List Rl) : Nat → Rl → Option Int := fun k r => if (rs.take k).any (fun q => within q r && eqB q.event r.event) = true then some (r.at_ : Int) else none
def stF4 : Nat → St → Option Int := fun _ x => seekAt (rlF4 x.rules) x.rules 0
def neverO (sts : List St) : Option Int := seekAt stF4 sts 0

end Go.Proofs.YtcijookbgliglaaDoor.Pm

/- The plain mathematics of the states to which no goals lead. -/
namespace Go.Proofs.YtcijookbgliglaaDoor.Pm

theorem seek_bd {α : Type} {f : Nat → α → Option Int} (n : Nat) (hf : ∀ i x r, f i x = some r → i < n → 0 ≤ r ∧ r < n) : ∀ (l : List α) (i : Nat) (r : Int), i + l.length ≤ n → seek f i l = some r → 0 ≤ r ∧ r < n
  | [], _, _, _, h => by simp [seek] at h
  | x :: t, i, r, hl, h => by
    rw [seek] at h
    simp at hl
    split at h
    · rename_i q hq
      simp at h; subst h
      exact hf i x _ hq (by omega)
    · exact seek_bd n hf t (i + 1) r (by omega) h
theorem where_bd (sts : List St) (name : ByteArray) : whereI sts name = -1 ∨ (0 ≤ whereI sts name ∧ whereI sts name < sts.length) := by
  unfold whereI whereO seekAt out
  cases h : seek (nameF name) 0 (sts.drop 0) with
  | none => left; rfl
  | some r =>
    right
    simp only [Option.getD_some]
    refine seek_bd sts.length ?_ _ 0 r (by simp) h
    intro i x r hr hi
    unfold nameF at hr
    split at hr
    · simp at hr; omega
    · simp at hr

def Edge (sts : List St) (i j : Nat) : Prop := ∃ h : i < sts.length, ∃ r ∈ sts[i].rules, whereI sts r.goal = (j : Int)
inductive Reach (sts : List St) : Nat → Prop
  | zero : Reach sts 0
  | step {i j : Nat} : Reach sts i → Edge sts i j → Reach sts j
open Classical in
noncomputable def lostF (sts : List St) : Nat → St → Option Int := fun i x => if Reach sts i then none else some (x.nameAt : Int)
noncomputable def lostO (sts : List St) : Option Int := seekAt (lostF sts) sts 0

/-- How many have been come to. -/
def cnt (bs : List Bool) : Nat := (bs.filter id).length
theorem cnt_le (bs : List Bool) : cnt bs ≤ bs.length := List.length_filter_le _ _
/-- From bs to cs none is lost. -/
def Le (bs cs : List Bool) : Prop := bs.length = cs.length ∧ ∀ i : Nat, bs[i]? = some true → cs[i]? = some true
theorem Le.refl (bs : List Bool) : Le bs bs := ⟨rfl, fun _ h => h⟩
theorem Le.trans {a b c : List Bool} (h : Le a b) (k : Le b c) : Le a c := ⟨h.1.trans k.1, fun i hi => k.2 i (h.2 i hi)⟩
theorem Le.set (bs : List Bool) (j : Nat) : Le bs (bs.set j true) := by
  refine ⟨by simp, fun i hi => ?_⟩
  by_cases h : j = i
  · subst h
    have : j < bs.length := (List.getElem?_eq_some_iff.1 hi).1
    rw [List.getElem?_set_self this]
  · rw [List.getElem?_set_ne h]; exact hi
theorem Le.cnt : ∀ {bs cs : List Bool}, Le bs cs → cnt bs ≤ cnt cs ∧ (cnt bs = cnt cs → bs = cs)
  | [], [], _ => ⟨Nat.le_refl _, fun _ => rfl⟩
  | [], _ :: _, h => by simp [Le] at h
  | _ :: _, [], h => by simp [Le] at h
  | b :: bs, c :: cs, h => by
    have ht : Le bs cs := ⟨by have := h.1; simpa using this, fun i hi => by have := h.2 (i + 1) (by simpa using hi); simpa using this⟩
    obtain ⟨h1, h2⟩ := Le.cnt ht
    have h0 : b = true → c = true := fun e => by have := h.2 0 (by simp [e]); simpa using this
    unfold Pm.cnt at h1 h2 ⊢
    cases b <;> cases c
    · simp; exact ⟨h1, h2⟩
    · simp; constructor
      · omega
      · intro e; omega
    · exact absurd (h0 rfl) (by simp)
    · simp; exact ⟨h1, h2⟩

/-- All goals of what has been come to have been come to. -/
def Shut (sts : List St) (bs cs : List Bool) : Prop := ∀ i j, bs[i]? = some true → Edge sts i j → cs[j]? = some true
/-- Sound: what has been come to can be come to. -/
def Sound (sts : List St) (bs : List Bool) : Prop := bs.length = sts.length ∧ bs[0]? = some true ∧ ∀ i, bs[i]? = some true → Reach sts i
theorem Sound.set {sts : List St} {bs : List Bool} (h : Sound sts bs) {i j : Nat} (hi : bs[i]? = some true) (he : Edge sts i j) : Sound sts (bs.set j true) := by
  refine ⟨by simp [h.1], (Le.set bs j).2 0 h.2.1, fun k hk => ?_⟩
  by_cases e : j = k
  · subst e; exact .step (h.2.2 i hi) he
  · rw [List.getElem?_set_ne e] at hk; exact h.2.2 k hk
theorem reach_of {sts : List St} {bs : List Bool} (h0 : bs[0]? = some true) (hc : Shut sts bs bs) {i : Nat} (h : Reach sts i) : bs[i]? = some true := by
  induction h with
  | zero => exact h0
  | step _ he ih => exact hc _ _ ih he
theorem reach_iff {sts : List St} {bs : List Bool} (h : Sound sts bs) (hc : Shut sts bs bs) (i : Nat) : Reach sts i ↔ bs[i]? = some true :=
  ⟨reach_of h.2.1 hc, h.2.2 i⟩
/-- Behind n rounds: nothing more is to be found, or more than n have been come to. -/
def Far (sts : List St) (n : Nat) (bs : List Bool) : Prop := Shut sts bs bs ∨ n < cnt bs
theorem far_start {sts : List St} {bs : List Bool} (h : Sound sts bs) : Far sts 0 bs := by
  right
  obtain ⟨-, h0, -⟩ := h
  cases bs with
  | nil => simp at h0
  | cons b t => simp at h0; subst h0; simp [cnt]
theorem far_step {sts : List St} {n : Nat} {bs cs : List Bool} (h : Far sts n bs) (hb : Sound sts bs) (hc : Sound sts cs) (hl : Le bs cs) (hs : Shut sts bs cs) : Far sts (n + 1) cs := by
  obtain ⟨h1, h2⟩ := hl.cnt
  by_cases e : cnt bs = cnt cs
  · have := h2 e; subst this; exact .inl hs
  · rcases h with h | h
    · left
      intro i j hi he
      exact hl.2 j (h i j (reach_of hb.2.1 h (hc.2.2 i hi)) he)
    · right; omega
theorem far_end {sts : List St} {bs : List Bool} (h : Far sts sts.length bs) (hl : bs.length = sts.length) : Shut sts bs bs := by
  rcases h with h | h
  · exact h
  · have := cnt_le bs; omega

/-- The first q states' goals have been gone through. -/
def ShutTo (sts : List St) (bs cs : List Bool) (q : Nat) : Prop := ∀ i j, i < q → bs[i]? = some true → Edge sts i j → cs[j]? = some true
/-- The first t goals of state q have been gone through. -/
def RowTo (sts : List St) (bs cs : List Bool) (q t : Nat) : Prop := ∀ (hq : q < sts.length) (k j : Nat) (hk : k < sts[q].rules.length), k < t → bs[q]? = some true → whereI sts sts[q].rules[k].goal = (j : Int) → cs[j]? = some true
theorem ShutTo.mono {sts : List St} {bs cs ds : List Bool} {q : Nat} (h : ShutTo sts bs cs q) (l : Le cs ds) : ShutTo sts bs ds q := fun i j h1 h2 h3 => l.2 j (h i j h1 h2 h3)
theorem RowTo.mono {sts : List St} {bs cs ds : List Bool} {q t : Nat} (h : RowTo sts bs cs q t) (l : Le cs ds) : RowTo sts bs ds q t := fun hq k j hk h1 h2 h3 => l.2 j (h hq k j hk h1 h2 h3)
theorem ShutTo.step {sts : List St} {bs cs : List Bool} {q : Nat} (h : ShutTo sts bs cs q) (hq : q < sts.length) (hr : RowTo sts bs cs q sts[q].rules.length) : ShutTo sts bs cs (q + 1) := by
  intro i j hi hb he
  by_cases e : i = q
  · subst e
    obtain ⟨_, r, hm, hw⟩ := he
    obtain ⟨k, hk, rfl⟩ := List.mem_iff_getElem.1 hm
    exact hr hq k j hk hk hb hw
  · exact h i j (by omega) hb he
theorem shut_of {sts : List St} {bs cs : List Bool} (h : ShutTo sts bs cs sts.length) : Shut sts bs cs := fun i j hb he => h i j he.1 hb he
theorem rowTo_skip {sts : List St} {bs ds : List Bool} {q t : Nat} (h : RowTo sts bs ds q t) (hq : q < sts.length) (ht : t < sts[q].rules.length) (hl : Le bs ds) (hn : ¬ (ds[q]? = some true ∧ 0 ≤ whereI sts sts[q].rules[t].goal)) : RowTo sts bs ds q (t + 1) := by
  intro hq' k j hk h1 h2 h3
  by_cases e : k = t
  · subst e
    exact absurd ⟨hl.2 q h2, by rw [h3]; omega⟩ hn
  · exact h hq' k j hk (by omega) h2 h3
theorem rowTo_set {sts : List St} {bs ds : List Bool} {q t x : Nat} (h : RowTo sts bs ds q t) (hq : q < sts.length) (ht : t < sts[q].rules.length) (hx : whereI sts sts[q].rules[t].goal = (x : Int)) (hxl : x < ds.length) : RowTo sts bs (ds.set x true) q (t + 1) := by
  intro hq' k j hk h1 h2 h3
  by_cases e : k = t
  · subst e
    have : x = j := by rw [hx] at h3; omega
    subst this
    rw [List.getElem?_set_self hxl]
  · exact (Le.set ds x).2 j (h hq' k j hk (by omega) h2 h3)
theorem edge_of {sts : List St} {q t x : Nat} (hq : q < sts.length) (ht : t < sts[q].rules.length) (hx : whereI sts sts[q].rules[t].goal = (x : Int)) : Edge sts q x := ⟨hq, _, List.getElem_mem ht, hx⟩
theorem sound_start (sts : List St) (h : 0 < sts.length) : Sound sts ((List.replicate sts.length false).set 0 true) := by
  refine ⟨by simp, ?_, fun i hi => ?_⟩
  · rw [List.getElem?_set_self (by simpa using h)]
  · by_cases e : 0 = i
    · subst e; exact .zero
    · rw [List.getElem?_set_ne e, List.getElem?_replicate] at hi
      split at hi
      · simp at hi
      · simp at hi
theorem lostF_yes {sts : List St} {bs : List Bool} (hs : Sound sts bs) (hc : Shut sts bs bs) {i : Nat} (hi : i < bs.length) (h : bs[i] = false) (x : St) : lostF sts i x = some (x.nameAt : Int) := by
  unfold lostF
  rw [if_neg]
  rw [reach_iff hs hc i, List.getElem?_eq_getElem hi, h]
  simp
theorem lostF_no {sts : List St} {bs : List Bool} (hs : Sound sts bs) (hc : Shut sts bs bs) {i : Nat} (hi : i < bs.length) (h : bs[i] = true) (x : St) : lostF sts i x = none := by
  unfold lostF
  rw [if_pos]
  rw [reach_iff hs hc i, List.getElem?_eq_getElem hi, h]

end Go.Proofs.YtcijookbgliglaaDoor.Pm

/- What holds of texts that are read to their end. -/
namespace Go.Proofs.YtcijookbgliglaaDoor.Pm

theorem need_bad {s : ByteArray} {p : Pn} {t : List UInt8} (h : (need s p t).2.bad < 0) : on p t = true := by
  cases ho : on p t
  · rw [need_no s p t ho] at h; have := fail_bad p; simp at h; omega
  · rfl
theorem word_bad {s : ByteArray} {p : Pn} (h : (word s p).2.bad < 0) : isW p = true := by
  cases ho : isW p
  · rw [word_no s p ho] at h; have := fail_bad p; simp at h; omega
  · rfl
theorem rulesL_bad {s : ByteArray} {n : Nat} {p : Pn} (h : (rulesL s n p).2.bad < 0) : p.bad < 0 := by
  cases ho : on p wOn
  · have := rulesL_no (s := s) (n := n) (p := p) rfl ho; rw [this.2] at h; exact h
  · exact (on_bad ho).1
theorem state1_bad {s : ByteArray} {p : Pn} (h : (state1 s p).2.bad < 0) : on p wState = true ∧ isW (need s p wState).2 = true ∧ on (stateA s p) [123] = true ∧ on (stateC s p).2 [125] = true := by
  have h1 : (need s (stateC s p).2 [125]).2.bad < 0 := h
  have h2 := need_bad h1
  have h3 : (stateB s p).bad < 0 := rulesL_bad (on_bad h2).1
  have h4 := need_bad (p := stateA s p) h3
  have h5 := word_bad (s := s) (p := (need s p wState).2) (on_bad h4).1
  have h6 := need_bad (p := p) (isW_bad h5).1
  exact ⟨h6, h5, h4, h2⟩
theorem statesL_bad {s : ByteArray} {n : Nat} {b : Bool} {p : Pn} (h : (statesL s n b p).2.bad < 0) (hb : b = true → n ≠ 0) : p.bad < 0 := by
  cases b with
  | false => unfold statesL at h; exact h
  | true =>
    cases n with
    | zero => exact absurd rfl (hb rfl)
    | succ n =>
      unfold statesL at h
      simp only at h
      by_cases h2 : (state1 s p).2.bad < 0
      · exact (on_bad (state1_bad h2).1).1
      · have ha : again (state1 s p).2 = false := by unfold again; simp [h2]
        rw [ha] at h
        unfold statesL at h
        exact absurd h h2
theorem state1_from (s : ByteArray) (p : Pn) (h : ok s p) : From s p.g.to_ (state1 s p).2 := by
  have h1 : From s p.g.to_ (need s p wState).2 := need_from s p _ h
  have h2 : From s p.g.to_ (stateA s p) := h1.word (need_ok s p _ h)
  have h3 : From s p.g.to_ (stateB s p) := h2.need _ (stateA_ok s p h)
  have h4 : From s p.g.to_ (stateC s p).2 := From.rulesL _ _ h3 (stateB_ok s p h)
  exact h4.need _ (stateC_ok s p h)

theorem skipL_small (s : ByteArray) (i : Nat) : ∀ j, i ≤ j → j < skipL s i → ∃ h : j < s.size, isSm s[j] = true := by
  intro j h1 h2
  by_cases h : i < s.size
  · cases b : isSm s[i]
    · rw [skipL_no s i h b] at h2; omega
    · by_cases e : j = i
      · subst e; exact ⟨h, b⟩
      · rw [skipL_yes s i h b] at h2
        exact skipL_small s (i + 1) j (by omega) h2
  · rw [skipL_end s i h] at h2; omega
termination_by s.size - i
theorem blank_not_small (c : UInt8) (h : isBl c = true) : isSm c = false := by
  unfold isBl at h; unfold isSm
  simp at h ⊢
  omega
theorem back_blank (s : ByteArray) (i : Nat) : back s (skipB s i) = back s i := by
  by_cases h : i < s.size
  · cases b : isBl s[i]
    · rw [skipB_no s i h b]
    · rw [skipB_yes s i h b, back_blank s (i + 1), back_no s i h (blank_not_small _ b)]
  · rw [skipB_end s i h]
termination_by s.size - i
theorem toList_length (s : ByteArray) : s.toList.length = s.size := by
  rw [ByteArray.toList_eq]; simp
theorem signAt_at (s : ByteArray) (j : Nat) (hj : j ≤ s.size) : (signAt s j).at_ = skipB s j := by
  have hb := skipB_le s j hj
  unfold signAt signOf
  repeat' split
  all_goals simp
  omega
/-- Behind the sign 'state' five letters have been gone by. -/
theorem sign_state {s : ByteArray} {j : Nat} (hj : j ≤ s.size) (hk : (signAt s j).k = 107) (ht : (signAt s j).t.toList = wState) : (signAt s j).to_ = (signAt s j).at_ + 5 ∧ back s (signAt s j).to_ = ((signAt s j).at_ : Int) + 4 := by
  have hl := skipL_le s _ (skipB_le s j hj)
  have hg := skipL_ge s (skipB s j)
  have hsm := skipL_small s (skipB s j)
  have h5 : (signAt s j).t.size = 5 := by rw [← toList_length, ht]; rfl
  unfold signAt at hk h5 ⊢
  generalize skipB s j = i at *
  generalize skipL s i = k at *
  by_cases hi : i < s.size
  · unfold signOf at hk h5 ⊢
    rw [dif_pos hi] at hk h5 ⊢
    by_cases e : k = i
    · rw [if_pos e] at hk h5
      split at h5
      · simp at h5; omega
      · rename_i h4; rw [if_neg h4] at hk; simp at hk
    · rw [if_neg e] at hk h5 ⊢
      split at hk
      · rename_i hkp
        rw [if_pos hkp] at h5 ⊢
        simp at h5
        have hki : k = i + 5 := by omega
        subst hki
        obtain ⟨h7, h8⟩ := hsm (i + 4) (by omega) (by omega)
        refine ⟨rfl, ?_⟩
        rw [back_yes s (i + 4) h7 h8]
        simp
      · split at hk <;> simp at hk
  · rw [signOf_end s i k hi] at hk; simp at hk
theorem state_begins {s : ByteArray} {p : Pn} (hf : From s 0 p) (h : (state1 s p).2.bad < 0) : back s (state1 s p).1.nameAt - 4 = ((state1 s p).1.at_ : Int) ∧ (state1 s p).1.nameAt ≤ s.size := by
  obtain ⟨h1, h2, h3, h4⟩ := state1_bad h
  obtain ⟨hb, hk⟩ := on_bad h1
  have ht : p.g.t.toList = wState := by unfold on at h1; simp at h1; exact h1.2
  rcases hf with hf | ⟨j, _, hj, hg⟩
  · omega
  · have hn := need_yes s p wState h1
    have hw := word_yes s (need s p wState).2 h2
    have e1 : (state1 s p).1.nameAt = (signAt s p.g.to_).at_ := by
      show (word s (need s p wState).2).1.at_ = _
      rw [hw, hn, next_yes s p hb]
    have e2 : (state1 s p).1.at_ = p.g.at_ := by
      show (need s p wState).1.at_ = _
      rw [hn]
    rw [e1, e2]
    rw [hg] at hk ht ⊢
    obtain ⟨h5, h6⟩ := sign_state hj hk ht
    have h7 := signAt_to_le s j hj
    rw [signAt_at s _ h7, back_blank s _, h6]
    exact ⟨by omega, skipB_le s _ h7⟩
theorem states_begin (s : ByteArray) : ∀ (n : Nat) (b : Bool) (p : Pn), From s 0 p → ok s p → (statesL s n b p).2.bad < 0 → ∀ x ∈ (statesL s n b p).1, back s x.nameAt - 4 = (x.at_ : Int) ∧ x.nameAt ≤ s.size
  | _, false, p, _, _, _ => by unfold statesL; simp
  | 0, true, p, _, _, _ => by unfold statesL; simp
  | n + 1, true, p, hf, hk, h => by
    unfold statesL at h ⊢
    simp only at h ⊢
    have h2 : (state1 s p).2.bad < 0 := by
      by_cases h3 : (state1 s p).2.bad < 0
      · exact h3
      · have ha : again (state1 s p).2 = false := by unfold again; simp [h3]
        rw [ha] at h
        unfold statesL at h
        exact absurd h h3
    intro x hx
    rcases List.mem_cons.1 hx with rfl | hx
    · exact state_begins hf h2
    · exact states_begin s n _ _ ((state1_from s p hk).mono (Nat.zero_le _)) (state1_ok s p hk) h x hx
theorem statesL_len (s : ByteArray) : ∀ (n : Nat) (b : Bool) (p : Pn), (statesL s n b p).1.length ≤ n
  | _, false, p => by unfold statesL; simp
  | 0, true, p => by unfold statesL; simp
  | n + 1, true, p => by unfold statesL; simp only [List.length_cons]; have := statesL_len s n (again (state1 s p).2) (state1 s p).2; omega
theorem readL_len (s : ByteArray) : 0 < (readL s).1.length ∧ (readL s).1.length ≤ s.size + 1 := by
  refine ⟨?_, statesL_len s _ _ _⟩
  unfold readL statesL
  simp
theorem readL_begin (s : ByteArray) (h : (readL s).2.bad < 0) : ∀ x ∈ (readL s).1, back s x.nameAt - 4 = (x.at_ : Int) ∧ x.nameAt ≤ s.size :=
  states_begin s _ _ _ (.inr ⟨0, Nat.le_refl _, Nat.zero_le _, rfl⟩) (signAt_to_le s 0 (Nat.zero_le _)) h

end Go.Proofs.YtcijookbgliglaaDoor.Pm

/- What the document answers of a text. -/
namespace Go.Proofs.YtcijookbgliglaaDoor.Pm

theorem seek_nn {α : Type} {f : Nat → α → Option Int} (hf : ∀ i x r, f i x = some r → 0 ≤ r) : ∀ (l : List α) (i : Nat) (r : Int), seek f i l = some r → 0 ≤ r
  | [], _, _, h => by simp [seek] at h
  | x :: t, i, r, h => by
    rw [seek] at h
    split at h
    · rename_i q hq
      simp at h; subst h
      exact hf i x _ hq
    · exact seek_nn hf t (i + 1) r h
theorem twiceG_nn (gs : List Gd) (r : Int) (h : twiceG gs = some r) : 0 ≤ r := by
  refine seek_nn ?_ _ _ _ h
  intro i x r hr
  unfold gdF at hr; split at hr
  · simp at hr; omega
  · simp at hr
theorem doubled_nn (sts : List St) (r : Int) (h : doubledO sts = some r) : 0 ≤ r := by
  refine seek_nn ?_ _ _ _ h
  intro i x r hr
  unfold stF2 at hr; split at hr
  · simp at hr; omega
  · exact seek_nn (fun _ x r hr => twiceG_nn x.guards r hr) _ _ _ hr
theorem goalless_nn (sts : List St) (r : Int) (h : goallessO sts = some r) : 0 ≤ r := by
  refine seek_nn ?_ _ _ _ h
  intro i x r hr
  refine seek_nn ?_ _ _ _ hr
  intro i x r hr
  unfold rlF3 at hr; split at hr
  · simp at hr; omega
  · simp at hr
theorem never_nn (sts : List St) (r : Int) (h : neverO sts = some r) : 0 ≤ r := by
  refine seek_nn ?_ _ _ _ h
  intro i x r hr
  refine seek_nn ?_ _ _ _ hr
  intro i x r hr
  unfold rlF4 at hr; split at hr
  · simp at hr; omega
  · simp at hr
theorem lost_nn (sts : List St) (r : Int) (h : lostO sts = some r) : 0 ≤ r := by
  refine seek_nn ?_ _ _ _ h
  intro i x r hr
  unfold lostF at hr; split at hr
  · simp at hr
  · simp at hr; omega
def bg0 (x : St) : Int := (x.at_ : Int)
theorem manyF_nn : ∀ (l : List St) (i n : Nat) (r : Int), manyF bg0 i n l = some r → 0 ≤ r
  | [], _, _, _, h => by simp [manyF] at h
  | x :: t, i, n, r, h => by
    rw [manyF] at h
    split at h
    · simp [bg0] at h; omega
    · split at h
      · simp at h; omega
      · exact manyF_nn t _ _ r h
theorem manyF_congr {bg bg' : St → Int} : ∀ (l : List St) (i n : Nat), (∀ x ∈ l, bg x = bg' x) → manyF bg i n l = manyF bg' i n l
  | [], _, _, _ => rfl
  | x :: t, i, n, h => by
    rw [manyF, manyF, h x (by simp), manyF_congr t _ _ (fun y hy => h y (by simp [hy]))]
def manyO (sts : List St) : Option Int := manyAt bg0 sts 0 0
theorem many_nn (sts : List St) (r : Int) (h : manyO sts = some r) : 0 ≤ r := manyF_nn _ _ _ _ h

noncomputable def verdict (sts : List St) : Int × Int :=
  match manyO sts with
  | some p => (4, p)
  | none => match doubledO sts with
    | some p => (5, p)
    | none => match goallessO sts with
      | some p => (6, p)
      | none => match neverO sts with
        | some p => (7, p)
        | none => match lostO sts with
          | some p => (8, p)
          | none => (0, 0)
noncomputable def answer (s : ByteArray) : Int × Int :=
  if 300 < s.size then (2, 0) else if 0 ≤ (readL s).2.bad then (3, (readL s).2.bad) else verdict (readL s).1

end Go.Proofs.YtcijookbgliglaaDoor.Pm

/- Signs as the program looks at them: by their text alone. -/
namespace Go.Proofs.YtcijookbgliglaaDoor.Pm

/-- A sign of the text that is one. -/
def Gs (s : ByteArray) (g : Sg) : Prop := g.k ≠ 63 ∧ ∃ j, j ≤ s.size ∧ g = signAt s j
theorem Gs.next {s : ByteArray} {g : Sg} (h : Gs s g) (hk : (signAt s g.to_).k ≠ 63) : Gs s (signAt s g.to_) := by
  obtain ⟨_, j, hj, rfl⟩ := h
  exact ⟨hk, _, signAt_to_le s j hj, rfl⟩
theorem Gs.le {s : ByteArray} {g : Sg} (h : Gs s g) : g.to_ ≤ s.size := by
  obtain ⟨_, j, hj, rfl⟩ := h
  exact signAt_to_le s j hj
theorem extract_toList (s : ByteArray) (i k : Nat) (hi : i < k) (hk : k ≤ s.size) : ∃ t, (s.extract i k).toList = s[i] :: t := by
  rw [ByteArray.toList_eq]
  have h : (s.extract i k).data.toList.length = k - i := by
    rw [← ByteArray.toList_eq, toList_length]; simp; omega
  cases hl : (s.extract i k).data.toList with
  | nil => rw [hl] at h; simp at h; omega
  | cons a t =>
    refine ⟨t, ?_⟩
    have h0 : (s.extract i k).data.toList[0]? = some a := by rw [hl]; rfl
    simp [ByteArray.data_extract] at h0
    rw [List.getElem?_take, if_pos (by omega), List.getElem?_drop] at h0
    have h1 : s.data.toList[i + 0]? = some s[i] := by
      rw [Nat.add_zero, List.getElem?_eq_getElem (by simpa using Nat.lt_of_lt_of_le hi hk)]; rfl
    rw [h1] at h0
    simp at h0
    rw [h0]
/-- What kinds of signs there are. -/
theorem Gs.cases {s : ByteArray} {g : Sg} (h : Gs s g) :
    g = ⟨0, emp, s.size, s.size⟩ ∨
    (∃ c, g.k = 107 ∧ g.t.toList = [c] ∧ is4 c = true) ∨
    (∃ c t, g.k = 107 ∧ kept g.t = true ∧ g.t.toList = c :: t ∧ isSm c = true) ∨
    (∃ c t, g.k = 119 ∧ kept g.t = false ∧ g.t.toList = c :: t ∧ isSm c = true) := by
  obtain ⟨hk, j, hj, rfl⟩ := h
  have hl := skipL_le s _ (skipB_le s j hj)
  have hg := skipL_ge s (skipB s j)
  have hsm := skipL_small s (skipB s j)
  unfold signAt at hk ⊢
  generalize skipB s j = i at *
  generalize skipL s i = k at *
  by_cases hi : i < s.size
  · by_cases e : k = i
    · subst e
      cases h4 : is4 s[k]
      · rw [signOf_none s k hi h4] at hk; simp at hk
      · rw [signOf_one s k hi h4]
        right; left
        obtain ⟨t, ht⟩ := extract_toList s k (k + 1) (by omega) (by omega)
        have hlen : (s.extract k (k + 1)).toList.length = 1 := by rw [toList_length]; simp; omega
        rw [ht] at hlen
        simp at hlen
        exact ⟨s[k], rfl, by rw [ht, hlen], h4⟩
    · obtain ⟨t, ht⟩ := extract_toList s i k (by omega) hl
      obtain ⟨h1, h2⟩ := hsm i (by omega) (by omega)
      cases hkp : kept (s.extract i k)
      · by_cases h8 : 8 < k - i
        · rw [signOf_long s i k hi e hkp h8] at hk; simp at hk
        · rw [signOf_word s i k hi e hkp h8]
          right; right; right
          exact ⟨s[i], t, rfl, hkp, ht, h2⟩
      · rw [signOf_kept s i k hi e hkp]
        right; right; left
        exact ⟨s[i], t, rfl, hkp, ht, h2⟩
  · rw [signOf_end s i k hi]; left; rfl
theorem is4_not_small (c : UInt8) (h : is4 c = true) : isSm c = false := by
  unfold is4 at h; unfold isSm
  simp at h ⊢
  omega
theorem emp_toList : emp.toList = [] := by decide +kernel
theorem Gs.isEnd {s : ByteArray} {g : Sg} (h : Gs s g) : g.t.toList.isEmpty = (g.k == 0) := by
  rcases h.cases with rfl | ⟨c, h1, h2, _⟩ | ⟨c, t, h1, _, h2, _⟩ | ⟨c, t, h1, _, h2, _⟩
  · rw [emp_toList]; rfl
  · rw [h1, h2]; rfl
  · rw [h1, h2]; rfl
  · rw [h1, h2]; rfl
theorem kept_mem {x : ByteArray} {l : List UInt8} (hl : l ∈ keptL) (h : x.toList = l) : kept x = true := by
  unfold kept keptFrom
  rw [List.any_eq_true]
  exact ⟨l, hl, by rw [h]; simp⟩
/-- What stands for itself is known by its text. -/
def selfL : List (List UInt8) := keptL ++ [[123], [125], [44], [59]]
theorem Gs.onText {s : ByteArray} {g : Sg} (h : Gs s g) {l : List UInt8} (hl : l ∈ selfL) : on ⟨g, -1⟩ l = (g.t.toList == l) := by
  unfold on
  simp only [show decide ((-1 : Int) < 0) = true from rfl, Bool.true_and]
  rcases h.cases with rfl | ⟨c, h1, h2, _⟩ | ⟨c, t, h1, _, h2, _⟩ | ⟨c, t, h1, h3, h2, h4⟩
  · rw [emp_toList]
    cases l with
    | nil => exact absurd hl (by decide)
    | cons a t => rfl
  · rw [h1]; rfl
  · rw [h1]; rfl
  · rw [h1]
    have : (g.t.toList == l) = false := by
      rw [beq_eq_false_iff_ne]
      intro e
      unfold selfL at hl
      rcases List.mem_append.1 hl with hl | hl
      · rw [kept_mem hl e] at h3; simp at h3
      · rw [h2] at e
        simp at hl
        rcases hl with rfl | rfl | rfl | rfl <;> simp at e <;> (rw [e.1] at h4; exact absurd h4 (by decide))
    rw [this]; rfl
/-- A word, as the program knows it: no kept one, and a letter begins it. -/
theorem Gs.isWord {s : ByteArray} {g : Sg} (h : Gs s g) : isW ⟨g, -1⟩ = (!(kept g.t) && (match g.t.toList with | [] => false | c :: _ => isSm c)) := by
  unfold isW
  simp only [show decide ((-1 : Int) < 0) = true from rfl, Bool.true_and]
  rcases h.cases with rfl | ⟨c, h1, h2, h3⟩ | ⟨c, t, h1, h3, h2, h4⟩ | ⟨c, t, h1, h3, h2, h4⟩
  · rw [emp_toList]; simp
  · rw [h1, h2]; simp [is4_not_small c h3]
  · rw [h1, h2, h3]; rfl
  · rw [h1, h2, h3]; simp [h4]

/-- Where a pen's text breaks off, as soon as that is known. -/
def dead (p : Pn) : Option Nat := if 0 ≤ p.bad then some p.bad.toNat else if p.g.k = 63 then some p.g.at_ else none
theorem dead_none {p : Pn} (h : dead p = none) : p.bad < 0 ∧ p.g.k ≠ 63 := by
  unfold dead at h
  split at h
  · simp at h
  · split at h
    · simp at h
    · exact ⟨by omega, by assumption⟩
theorem dead_alive (g : Sg) (h : g.k ≠ 63) : dead ⟨g, -1⟩ = none := by
  unfold dead; simp [h]
theorem dead_63 (g : Sg) (h : g.k = 63) : dead ⟨g, -1⟩ = some g.at_ := by
  unfold dead; simp [h]
theorem dead_bad (g : Sg) (n : Nat) : dead ⟨g, (n : Int)⟩ = some n := by
  unfold dead; simp
theorem next1 (s : ByteArray) (g : Sg) : next s ⟨g, -1⟩ = ⟨signAt s g.to_, -1⟩ := next_yes s _ (show (-1 : Int) < 0 by decide)
theorem fail1 (g : Sg) : fail ⟨g, -1⟩ = ⟨g, (g.at_ : Int)⟩ := fail_yes _ (show (-1 : Int) < 0 by decide)

end Go.Proofs.YtcijookbgliglaaDoor.Pm

/- A text that has broken off stays broken off. -/
namespace Go.Proofs.YtcijookbgliglaaDoor.Pm

theorem dead_some {p : Pn} {x : Nat} (h : dead p = some x) : (0 ≤ p.bad ∧ p.bad = (x : Int)) ∨ (p.bad < 0 ∧ p.g.k = 63 ∧ p.g.at_ = x) := by
  unfold dead at h
  split at h
  · left; simp at h; omega
  · split at h
    · right; simp at h; exact ⟨by omega, by assumption, h⟩
    · simp at h
theorem dead_on {p : Pn} {x : Nat} (h : dead p = some x) (t : List UInt8) : on p t = false := by
  unfold on
  rcases dead_some h with ⟨h1, _⟩ | ⟨_, h2, _⟩
  · have : ¬ p.bad < 0 := by omega
    simp [this]
  · rw [h2]; simp
theorem dead_isW {p : Pn} {x : Nat} (h : dead p = some x) : isW p = false := by
  unfold isW
  rcases dead_some h with ⟨h1, _⟩ | ⟨_, h2, _⟩
  · have : ¬ p.bad < 0 := by omega
    simp [this]
  · rw [h2]; simp
theorem dead_fail {p : Pn} {x : Nat} (h : dead p = some x) : dead (fail p) = some x := by
  rcases dead_some h with ⟨h1, _⟩ | ⟨h1, _, h2⟩
  · rw [fail_no p (by omega)]; exact h
  · rw [fail_yes p h1, h2]; exact dead_bad _ _
theorem dead_need {s : ByteArray} {p : Pn} {x : Nat} (h : dead p = some x) (t : List UInt8) : dead (need s p t).2 = some x := by
  rw [need_no s p t (dead_on h t)]; exact dead_fail h
theorem dead_word {s : ByteArray} {p : Pn} {x : Nat} (h : dead p = some x) : dead (word s p).2 = some x := by
  rw [word_no s p (dead_isW h)]; exact dead_fail h
theorem dead_skip {s : ByteArray} {p : Pn} {x : Nat} (h : dead p = some x) (t : List UInt8) : skip s p t = (false, p) := skip_no s p t (dead_on h t)
theorem dead_goal1 {s : ByteArray} {p : Pn} {x : Nat} (h : dead p = some x) : dead (goal1 s p).2 = some x := by
  unfold goal1; rw [if_neg (by simp [dead_on h wClosed])]; exact dead_word h
theorem dead_guard1 {s : ByteArray} {p : Pn} {x : Nat} (h : dead p = some x) : dead (guard1 s p).2.2 = some x ∧ (guard1 s p).2.1 = false := by
  unfold guard1
  rw [dead_skip h wNot]
  have h2 := dead_word (s := s) h
  simp only
  rw [dead_skip h2 [44]]
  exact ⟨h2, rfl⟩
theorem dead_guardL {s : ByteArray} {n : Nat} {b : Bool} {p : Pn} {x : Nat} (h : dead p = some x) : dead (guardL s n b p).2 = some x := by
  cases b with
  | false => unfold guardL; exact h
  | true =>
    cases n with
    | zero => unfold guardL; exact h
    | succ n =>
      unfold guardL
      obtain ⟨h1, h2⟩ := dead_guard1 (s := s) h
      simp only
      rw [h2]
      unfold guardL
      exact h1
theorem dead_act1 {s : ByteArray} {p : Pn} {x : Nat} (h : dead p = some x) : dead (act1 s p).2.2 = some x ∧ (act1 s p).2.1 = false := by
  unfold act1
  have h2 := dead_word (s := s) h
  simp only
  rw [dead_skip h2 [44]]
  exact ⟨h2, rfl⟩
theorem dead_actL {s : ByteArray} {n : Nat} {b : Bool} {p : Pn} {x : Nat} (h : dead p = some x) : dead (actL s n b p).2 = some x := by
  cases b with
  | false => unfold actL; exact h
  | true =>
    cases n with
    | zero => unfold actL; exact h
    | succ n =>
      unfold actL
      obtain ⟨h1, h2⟩ := dead_act1 (s := s) h
      simp only
      rw [h2]
      unfold actL
      exact h1
/-- What lives is a sign without a fault. -/
def Live (s : ByteArray) (p : Pn) : Prop := p.bad = -1 ∧ Gs s p.g
theorem Live.eta {s : ByteArray} {p : Pn} (h : Live s p) : p = ⟨p.g, -1⟩ := by
  cases p; simp only [Live] at h; rw [h.1]
theorem Live.alive {s : ByteArray} {p : Pn} (h : Live s p) : dead p = none := by
  rw [h.eta]; exact dead_alive _ h.2.1
theorem Live.ok {s : ByteArray} {p : Pn} (h : Live s p) : ok s p := h.2.le
theorem live_next {s : ByteArray} {p : Pn} (h : Live s p) (hd : dead (next s p) = none) : Live s (next s p) := by
  have hn := next_yes s p (by rw [h.1]; decide)
  rw [hn] at hd ⊢
  exact ⟨h.1, h.2.next (dead_none hd).2⟩
theorem live_fail {p : Pn} (hd : dead (fail p) = none) : False := by
  have := fail_bad p
  have := (dead_none hd).1
  omega
theorem live_need {s : ByteArray} {p : Pn} {t : List UInt8} (h : Live s p) (hd : dead (need s p t).2 = none) : Live s (need s p t).2 ∧ (need s p t).1 = p.g := by
  cases ho : on p t
  · rw [need_no s p t ho] at hd; exact (live_fail hd).elim
  · rw [need_yes s p t ho] at hd ⊢; exact ⟨live_next h hd, rfl⟩
theorem live_word {s : ByteArray} {p : Pn} (h : Live s p) (hd : dead (word s p).2 = none) : Live s (word s p).2 ∧ (word s p).1 = p.g := by
  cases ho : isW p
  · rw [word_no s p ho] at hd; exact (live_fail hd).elim
  · rw [word_yes s p ho] at hd ⊢; exact ⟨live_next h hd, rfl⟩
theorem live_skip {s : ByteArray} {p : Pn} {t : List UInt8} (h : Live s p) (hd : dead (skip s p t).2 = none) : Live s (skip s p t).2 := by
  cases ho : on p t
  · rw [skip_no s p t ho]; exact h
  · rw [skip_yes s p t ho] at hd ⊢; exact live_next h hd
theorem live_goal1 {s : ByteArray} {p : Pn} (h : Live s p) (hd : dead (goal1 s p).2 = none) : Live s (goal1 s p).2 ∧ (goal1 s p).1 = p.g := by
  unfold goal1 at hd ⊢
  split at hd
  · rename_i ho; rw [if_pos ho]; exact ⟨live_next h hd, rfl⟩
  · rename_i ho; rw [if_neg ho]; exact live_word h hd

theorem guardL_dead {s : ByteArray} {n : Nat} {p r1 r2 q : Pn} {nt : Bool} {g : Sg} {l : List Gd} {x : Nat} (h : guardL s (n + 1) true p = (l, q)) (h1 : skip s p wNot = (nt, r1)) (h2 : word s r1 = (g, r2)) (hd : dead r2 = some x) : dead q = some x := by
  have hg : guard1 s p = (⟨g.t, nt, g.at_⟩, false, r2) := by unfold guard1; rw [h1, h2, dead_skip hd]
  obtain ⟨t, _, h4⟩ := guardL_step h hg
  rw [(guardL_stop h4).2]; exact hd
theorem actL_dead {s : ByteArray} {n : Nat} {p r2 q : Pn} {g : Sg} {l : List Ac} {x : Nat} (h : actL s (n + 1) true p = (l, q)) (h2 : word s p = (g, r2)) (hd : dead r2 = some x) : dead q = some x := by
  have hg : act1 s p = (⟨g.t, g.at_⟩, false, r2) := by unfold act1; rw [h2, dead_skip hd]
  obtain ⟨t, _, h4⟩ := actL_step h hg
  rw [(actL_stop h4).2]; exact hd

end Go.Proofs.YtcijookbgliglaaDoor.Pm

/- The plain mathematics of how much a text can hold. -/
namespace Go.Proofs.YtcijookbgliglaaDoor.Pm

def Tx (s : ByteArray) (p : Pn) : Prop := p.g.t.size ≤ s.size
theorem signOf_tx (s : ByteArray) (i k : Nat) : (signOf s i k).t.size ≤ s.size := by
  have he : emp.size ≤ s.size := by show 0 ≤ _; omega
  have hx : ∀ a b, (s.extract a b).size ≤ s.size := fun a b => by rw [ByteArray.size_extract]; omega
  unfold signOf
  split
  · split
    · split
      · exact hx _ _
      · exact he
    · split
      · exact hx _ _
      · split
        · exact he
        · exact hx _ _
  · exact he
theorem next_tx (s : ByteArray) (p : Pn) (h : Tx s p) : Tx s (next s p) := by
  unfold next; split
  · exact signOf_tx _ _ _
  · exact h
theorem fail_tx (s : ByteArray) (p : Pn) (h : Tx s p) : Tx s (fail p) := by
  unfold fail; split
  · exact h
  · exact h
theorem need_tx (s : ByteArray) (p : Pn) (t : List UInt8) (h : Tx s p) : Tx s (need s p t).2 := by
  unfold need; split
  · exact next_tx s p h
  · exact fail_tx s p h
theorem word_tx (s : ByteArray) (p : Pn) (h : Tx s p) : Tx s (word s p).2 := by
  unfold word; split
  · exact next_tx s p h
  · exact fail_tx s p h
theorem word_sz (s : ByteArray) (p : Pn) (h : Tx s p) : (word s p).1.t.size ≤ s.size := by
  unfold word; split
  · exact h
  · show 0 ≤ _; omega
theorem skip_tx (s : ByteArray) (p : Pn) (t : List UInt8) (h : Tx s p) : Tx s (skip s p t).2 := by
  unfold skip; split
  · exact next_tx s p h
  · exact h
theorem goal1_tx (s : ByteArray) (p : Pn) (h : Tx s p) : Tx s (goal1 s p).2 := by
  unfold goal1; split
  · exact next_tx s p h
  · exact word_tx s p h
theorem guardL_tx (s : ByteArray) : ∀ (n : Nat) (b : Bool) (p : Pn), Tx s p → Tx s (guardL s n b p).2
  | _, false, _, h => by unfold guardL; exact h
  | 0, true, _, h => by unfold guardL; exact h
  | n + 1, true, p, h => by unfold guardL; exact guardL_tx s n _ _ (skip_tx s _ _ (word_tx s _ (skip_tx s _ _ h)))
theorem guardL_len (s : ByteArray) : ∀ (n : Nat) (b : Bool) (p : Pn), (guardL s n b p).1.length ≤ n
  | _, false, _ => by unfold guardL; simp
  | 0, true, _ => by unfold guardL; simp
  | n + 1, true, p => by unfold guardL; simp only [List.length_cons]; have := guardL_len s n (guard1 s p).2.1 (guard1 s p).2.2; omega
theorem actL_tx (s : ByteArray) : ∀ (n : Nat) (b : Bool) (p : Pn), Tx s p → Tx s (actL s n b p).2
  | _, false, _, h => by unfold actL; exact h
  | 0, true, _, h => by unfold actL; exact h
  | n + 1, true, p, h => by unfold actL; exact actL_tx s n _ _ (skip_tx s _ _ (word_tx s _ h))
theorem actL_len (s : ByteArray) : ∀ (n : Nat) (b : Bool) (p : Pn), (actL s n b p).1.length ≤ n
  | _, false, _ => by unfold actL; simp
  | 0, true, _ => by unfold actL; simp
  | n + 1, true, p => by unfold actL; simp only [List.length_cons]; have := actL_len s n (act1 s p).2.1 (act1 s p).2.2; omega
theorem rule_tx (s : ByteArray) (p : Pn) (h : Tx s p) : Tx s (rule s p).2 :=
  need_tx s _ _ (actL_tx s _ _ _ (skip_tx s _ _ (goal1_tx s _ (need_tx s _ _ (guardL_tx s _ _ _ (skip_tx s _ _ (word_tx s _ (need_tx s _ _ h))))))))
def Few (s : ByteArray) (r : Rl) : Prop := r.guards.length ≤ s.size + 1 ∧ r.actions.length ≤ s.size + 1 ∧ r.event.size ≤ s.size
theorem rule_few (s : ByteArray) (p : Pn) (h : Tx s p) : Few s (rule s p).1 :=
  ⟨guardL_len s _ _ _, actL_len s _ _ _, word_sz s _ (need_tx s _ _ h)⟩
theorem rulesL_few (s : ByteArray) : ∀ (n : Nat) (p : Pn), Tx s p → Tx s (rulesL s n p).2 ∧ (rulesL s n p).1.length ≤ n ∧ ∀ r ∈ (rulesL s n p).1, Few s r
  | 0, p, h => by unfold rulesL; exact ⟨h, by simp, fun r hr => by simp at hr⟩
  | n + 1, p, h => by
    unfold rulesL
    split
    · obtain ⟨h1, h2, h3⟩ := rulesL_few s n (rule s p).2 (rule_tx s p h)
      refine ⟨h1, by simp only [List.length_cons]; omega, fun r hr => ?_⟩
      rcases List.mem_cons.1 hr with rfl | hr
      · exact rule_few s p h
      · exact h3 r hr
    · exact ⟨h, by simp, fun r hr => by simp at hr⟩
theorem state1_few (s : ByteArray) (p : Pn) (h : Tx s p) : Tx s (state1 s p).2 ∧ (state1 s p).1.rules.length ≤ s.size + 1 ∧ ∀ r ∈ (state1 s p).1.rules, Few s r := by
  obtain ⟨h1, h2, h3⟩ := rulesL_few s (s.size + 1) (stateB s p) (need_tx s _ _ (word_tx s _ (need_tx s _ _ h)))
  exact ⟨need_tx s _ _ h1, h2, h3⟩
theorem statesL_few (s : ByteArray) : ∀ (n : Nat) (b : Bool) (p : Pn), Tx s p → ∀ x ∈ (statesL s n b p).1, x.rules.length ≤ s.size + 1 ∧ ∀ r ∈ x.rules, Few s r
  | _, false, p, _ => by unfold statesL; simp
  | 0, true, p, _ => by unfold statesL; simp
  | n + 1, true, p, h => by
    unfold statesL
    obtain ⟨h1, h2, h3⟩ := state1_few s p h
    intro x hx
    rcases List.mem_cons.1 hx with rfl | hx
    · exact ⟨h2, h3⟩
    · exact statesL_few s n _ _ h1 x hx
theorem readL_few (s : ByteArray) : ∀ x ∈ (readL s).1, x.rules.length ≤ s.size + 1 ∧ ∀ r ∈ x.rules, Few s r := statesL_few s _ _ _ (signOf_tx _ _ _)

/-- No text is left over. -/
theorem statesL_done (s : ByteArray) : ∀ (n : Nat) (p : Pn), ok s p → s.size < n + p.g.to_ → again (statesL s n true p).2 = false ∨ n = 0
  | 0, _, _, _ => .inr rfl
  | n + 1, p, hk, hn => by
    left
    unfold statesL
    cases ha : again (state1 s p).2
    · simp only
      unfold statesL
      exact ha
    · have h1 := state_more s p hk ha
      have h2 : ok s (state1 s p).2 := state1_ok s p hk
      rcases statesL_done s n (state1 s p).2 h2 (by omega) with h3 | h3
      · exact h3
      · subst h3
        have : (state1 s p).2.g.to_ ≤ s.size := h2
        omega
theorem readL_done (s : ByteArray) : again (readL s).2 = false := by
  have hk : ok s ⟨signAt s 0, -1⟩ := signAt_to_le s 0 (Nat.zero_le _)
  rcases statesL_done s (s.size + 1) ⟨signAt s 0, -1⟩ hk (by omega) with h | h
  · exact h
  · omega
theorem manyF_few : ∀ (l : List St) (i n : Nat), n ≤ 24 → manyF bg0 i n l = none → n + (l.map fun x => x.rules.length).sum ≤ 24
  | [], _, _, h, _ => by simpa using h
  | x :: t, i, n, hn, h => by
    rw [manyF] at h
    split at h
    · simp at h
    · split at h
      · simp at h
      · rename_i h2
        have := manyF_few t (i + 1) (n + x.rules.length) (by omega) h
        simp only [List.map_cons, List.sum_cons]
        omega
theorem many_few (sts : List St) (h : manyO sts = none) : (sts.map fun x => x.rules.length).sum ≤ 24 := by
  have := manyF_few sts 0 0 (by omega) h
  omega
end Go.Proofs.YtcijookbgliglaaDoor.Pm
