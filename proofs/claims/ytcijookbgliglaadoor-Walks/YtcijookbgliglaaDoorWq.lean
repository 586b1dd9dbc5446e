import Derived.Test.YtcijookbgliglaaDoorWf
import Derived.Test.YtcijookbgliglaaDoorP
/- How what was read is read again; the document's where. -/
namespace Go.Proofs.YtcijookbgliglaaDoor
open Go.RowKit

/-- The cells of a row of elements of k cells each. -/
theorem flat_get {α : Type} (f : α → List Value) (k : Nat) (hk : ∀ x, (f x).length = k) : ∀ (l : List α) (i j : Nat) (hi : i < l.length), j < k → (l.flatMap f)[i * k + j]? = (f l[i])[j]?
  | [], i, _, hi, _ => by simp at hi
  | x :: t, 0, j, _, hj => by
    simp only [List.flatMap_cons, Nat.zero_mul, Nat.zero_add, List.getElem_cons_zero]
    rw [List.getElem?_append_left (by rw [hk]; exact hj)]
  | x :: t, i + 1, j, hi, hj => by
    simp only [List.flatMap_cons, List.getElem_cons_succ]
    have h1 : (f x).length ≤ (i + 1) * k + j := by rw [hk, Nat.succ_mul]; omega
    rw [List.getElem?_append_right h1, hk]
    have h2 : (i + 1) * k + j - k = i * k + j := by rw [Nat.succ_mul]; omega
    rw [h2]
    exact flat_get f k hk t i j (by simp at hi; omega) hj
theorem own_cell {w : World} {base : Nat} {e : TypeId} {size : Nat} {a : Addr} {n c m : Nat} {xs : List Value} (h : w.ownsRow base e size (.slice (some a) n c) m xs) {j : Nat} {u : Value} (hu : xs[j]? = some u) : w.cell? ⟨a.block, j, none⟩ = some u := by
  have := World.ownsRow.cells h (g := a.block) rfl j u hu
  have hadd : (⟨a.block, 0, none⟩ : Addr).add j = ⟨a.block, j, none⟩ := by unfold Addr.add; split <;> simp_all
  rw [hadd] at this
  exact this
theorem own_shape {w : World} {base : Nat} {e : TypeId} {size : Nat} {v : Value} {n : Nat} {xs : List Value} (h : w.ownsRow base e size v n xs) : (v = .slice none 0 0 ∧ n = 0) ∨ ∃ g cap, v = .slice (some ⟨g, 0, none⟩) n cap ∧ base ≤ g ∧ g < w.heap.size ∧ n ≤ cap ∧ cap ≤ maxLen := by
  rcases h.2 with hn | ⟨g, cap, cur, hv, hb, hh, h1, h2, _⟩
  · exact .inl hn
  · exact .inr ⟨g, cap, hv, hb, (Array.getElem?_eq_some_iff.1 hh).1, h1, h2⟩

/-- What a state of the row reads as. -/
theorem StatesR.at_ {w : World} {base : Nat} {v : Value} {sts : List Pm.St} (h : StatesR w base v sts) :
    (v = .slice none 0 0 ∧ sts = []) ∨ ∃ g cap, v = .slice (some ⟨g, 0, none⟩) sts.length cap ∧ base ≤ g ∧ g < w.heap.size ∧ sts.length ≤ cap ∧ cap ≤ maxLen ∧
      ∀ i (hi : i < sts.length), ∃ a n c, w.cell? ⟨g, i * 3, none⟩ = some (.string sts[i].name) ∧ w.cell? ⟨g, i * 3 + 1, none⟩ = some (.int .i64 (sts[i].nameAt : Int)) ∧ w.cell? ⟨g, i * 3 + 2, none⟩ = some (.slice a n c) ∧ RulesR w base (.slice a n c) sts[i].rules := by
  obtain ⟨ys, rfl, h2, h3⟩ := h
  rcases own_shape h2 with ⟨rfl, hn⟩ | ⟨g, cap, rfl, hb, hg, h1, h4⟩
  · have : ys = [] := List.eq_nil_of_length_eq_zero hn
    subst this; exact .inl ⟨rfl, rfl⟩
  · refine .inr ⟨g, cap, by simp, hb, hg, by simpa using h1, h4, fun i hi => ?_⟩
    have hi' : i < ys.length := by simpa using hi
    have hr := h3 ys[i] (List.getElem_mem hi')
    have hfl := flat_get (fun y : Pm.St × Value => [.string y.1.name, .int .i64 (y.1.nameAt : Int), y.2]) 3 (fun _ => rfl) ys i
    obtain ⟨xs, hx1, hx2, hx3⟩ := hr
    obtain ⟨a, n, c, hv⟩ := own_slice hx2
    refine ⟨a, n, c, ?_, ?_, ?_, ?_⟩
    · exact own_cell h2 (by have := hfl 0 hi' (by omega); simpa [stCells] using this)
    · exact own_cell h2 (by have := hfl 1 hi' (by omega); simpa [stCells] using this)
    · rw [← hv]; exact own_cell h2 (by have := hfl 2 hi' (by omega); simpa [stCells] using this)
    · rw [← hv]; simp only [List.getElem_map]; exact ⟨xs, hx1, hx2, hx3⟩
theorem RulesR.at_ {w : World} {base : Nat} {v : Value} {rs : List Pm.Rl} (h : RulesR w base v rs) :
    (v = .slice none 0 0 ∧ rs = []) ∨ ∃ g cap, v = .slice (some ⟨g, 0, none⟩) rs.length cap ∧ base ≤ g ∧ g < w.heap.size ∧ rs.length ≤ cap ∧ cap ≤ maxLen ∧
      ∀ i (hi : i < rs.length), ∃ a n c a' n' c', w.cell? ⟨g, i * 6, none⟩ = some (.string rs[i].event) ∧ w.cell? ⟨g, i * 6 + 1, none⟩ = some (.slice a n c) ∧ w.cell? ⟨g, i * 6 + 2, none⟩ = some (.string rs[i].goal) ∧ w.cell? ⟨g, i * 6 + 3, none⟩ = some (.slice a' n' c') ∧ w.cell? ⟨g, i * 6 + 4, none⟩ = some (.int .i64 (rs[i].at_ : Int)) ∧ w.cell? ⟨g, i * 6 + 5, none⟩ = some (.int .i64 (rs[i].to_ : Int)) ∧ GuardsR w base (.slice a n c) rs[i].guards ∧ ActsR w base (.slice a' n' c') rs[i].actions := by
  obtain ⟨xs, rfl, h2, h3⟩ := h
  rcases own_shape h2 with ⟨rfl, hn⟩ | ⟨g, cap, rfl, hb, hg, h1, h4⟩
  · have : xs = [] := List.eq_nil_of_length_eq_zero hn
    subst this; exact .inl ⟨rfl, rfl⟩
  · refine .inr ⟨g, cap, by simp, hb, hg, by simpa using h1, h4, fun i hi => ?_⟩
    have hi' : i < xs.length := by simpa using hi
    have hr := h3 xs[i] (List.getElem_mem hi')
    have hfl := flat_get (fun x : Pm.Rl × Value × Value => [.string x.1.event, x.2.1, .string x.1.goal, x.2.2, .int .i64 (x.1.at_ : Int), .int .i64 (x.1.to_ : Int)]) 6 (fun _ => rfl) xs i
    obtain ⟨a, n, c, hv⟩ := own_slice hr.1
    obtain ⟨a', n', c', hv'⟩ := own_slice hr.2
    refine ⟨a, n, c, a', n', c', ?_, ?_, ?_, ?_, ?_, ?_, ?_, ?_⟩
    · exact own_cell h2 (by have := hfl 0 hi' (by omega); simpa [rlCells] using this)
    · rw [← hv]; exact own_cell h2 (by have := hfl 1 hi' (by omega); simpa [rlCells] using this)
    · exact own_cell h2 (by have := hfl 2 hi' (by omega); simpa [rlCells] using this)
    · rw [← hv']; exact own_cell h2 (by have := hfl 3 hi' (by omega); simpa [rlCells] using this)
    · exact own_cell h2 (by have := hfl 4 hi' (by omega); simpa [rlCells] using this)
    · exact own_cell h2 (by have := hfl 5 hi' (by omega); simpa [rlCells] using this)
    · rw [← hv]; simp only [List.getElem_map]; exact hr.1
    · rw [← hv']; simp only [List.getElem_map]; exact hr.2
theorem GuardsR.at_ {w : World} {base : Nat} {v : Value} {gs : List Pm.Gd} (h : GuardsR w base v gs) :
    (v = .slice none 0 0 ∧ gs = []) ∨ ∃ g cap, v = .slice (some ⟨g, 0, none⟩) gs.length cap ∧ base ≤ g ∧ g < w.heap.size ∧ gs.length ≤ cap ∧ cap ≤ maxLen ∧
      ∀ i (hi : i < gs.length), w.cell? ⟨g, i * 3, none⟩ = some (.string gs[i].word) ∧ w.cell? ⟨g, i * 3 + 1, none⟩ = some (.bool gs[i].not) ∧ w.cell? ⟨g, i * 3 + 2, none⟩ = some (.int .i64 (gs[i].at_ : Int)) := by
  unfold GuardsR at h
  rcases own_shape h with ⟨rfl, hn⟩ | ⟨g, cap, rfl, hb, hg, h1, h4⟩
  · exact .inl ⟨rfl, List.eq_nil_of_length_eq_zero hn⟩
  · refine .inr ⟨g, cap, rfl, hb, hg, h1, h4, fun i hi => ?_⟩
    have hfl := flat_get (fun g : Pm.Gd => [.string g.word, .bool g.not, .int .i64 (g.at_ : Int)]) 3 (fun _ => rfl) gs i
    refine ⟨?_, ?_, ?_⟩
    · exact own_cell h (by have := hfl 0 hi (by omega); simpa [gdCells] using this)
    · exact own_cell h (by have := hfl 1 hi (by omega); simpa [gdCells] using this)
    · exact own_cell h (by have := hfl 2 hi (by omega); simpa [gdCells] using this)

theorem StatesR.at2 {w : World} {base : Nat} {v : Value} {sts : List Pm.St} (h : StatesR w base v sts) :
    ∃ a cap, v = .slice a sts.length cap ∧ sts.length ≤ 9223372036854775807 ∧
      ∀ i (hi : i < sts.length), ∃ g b n c, a = some ⟨g, 0, none⟩ ∧ sts.length ≤ cap ∧ w.cell? ⟨g, i * 3, none⟩ = some (.string sts[i].name) ∧ w.cell? ⟨g, i * 3 + 1, none⟩ = some (.int .i64 (sts[i].nameAt : Int)) ∧ w.cell? ⟨g, i * 3 + 2, none⟩ = some (.slice b n c) ∧ RulesR w base (.slice b n c) sts[i].rules := by
  rcases h.at_ with ⟨rfl, rfl⟩ | ⟨g, cap, rfl, _, _, h1, h2, h3⟩
  · exact ⟨none, 0, rfl, by simp, fun i hi => by simp at hi⟩
  · refine ⟨_, cap, rfl, by unfold maxLen at h2; omega, fun i hi => ?_⟩
    obtain ⟨b, n, c, h4⟩ := h3 i hi
    exact ⟨g, b, n, c, rfl, h1, h4⟩
theorem RulesR.at2 {w : World} {base : Nat} {v : Value} {rs : List Pm.Rl} (h : RulesR w base v rs) :
    ∃ a cap, v = .slice a rs.length cap ∧ rs.length ≤ 9223372036854775807 ∧
      ∀ i (hi : i < rs.length), ∃ g b n c b' n' c', a = some ⟨g, 0, none⟩ ∧ rs.length ≤ cap ∧ w.cell? ⟨g, i * 6, none⟩ = some (.string rs[i].event) ∧ w.cell? ⟨g, i * 6 + 1, none⟩ = some (.slice b n c) ∧ w.cell? ⟨g, i * 6 + 2, none⟩ = some (.string rs[i].goal) ∧ w.cell? ⟨g, i * 6 + 3, none⟩ = some (.slice b' n' c') ∧ w.cell? ⟨g, i * 6 + 4, none⟩ = some (.int .i64 (rs[i].at_ : Int)) ∧ w.cell? ⟨g, i * 6 + 5, none⟩ = some (.int .i64 (rs[i].to_ : Int)) ∧ GuardsR w base (.slice b n c) rs[i].guards ∧ ActsR w base (.slice b' n' c') rs[i].actions := by
  rcases h.at_ with ⟨rfl, rfl⟩ | ⟨g, cap, rfl, _, _, h1, h2, h3⟩
  · exact ⟨none, 0, rfl, by simp, fun i hi => by simp at hi⟩
  · refine ⟨_, cap, rfl, by unfold maxLen at h2; omega, fun i hi => ?_⟩
    obtain ⟨b, n, c, b', n', c', h4⟩ := h3 i hi
    exact ⟨g, b, n, c, b', n', c', rfl, h1, h4⟩
theorem GuardsR.at2 {w : World} {base : Nat} {v : Value} {gs : List Pm.Gd} (h : GuardsR w base v gs) :
    ∃ a cap, v = .slice a gs.length cap ∧ gs.length ≤ 9223372036854775807 ∧
      ∀ i (hi : i < gs.length), ∃ g, a = some ⟨g, 0, none⟩ ∧ gs.length ≤ cap ∧ w.cell? ⟨g, i * 3, none⟩ = some (.string gs[i].word) ∧ w.cell? ⟨g, i * 3 + 1, none⟩ = some (.bool gs[i].not) ∧ w.cell? ⟨g, i * 3 + 2, none⟩ = some (.int .i64 (gs[i].at_ : Int)) := by
  rcases h.at_ with ⟨rfl, rfl⟩ | ⟨g, cap, rfl, _, _, h1, h2, h3⟩
  · exact ⟨none, 0, rfl, by simp, fun i hi => by simp at hi⟩
  · exact ⟨_, cap, rfl, by unfold maxLen at h2; omega, fun i hi => ⟨g, rfl, h1, h3 i hi⟩⟩

theorem StatesR.at3 {w : World} {base : Nat} {a : Option Addr} {n c : Nat} {sts : List Pm.St} (h : StatesR w base (.slice a n c) sts) :
    ∀ i (hi : i < sts.length), ∃ g b n' c', a = some ⟨g, 0, none⟩ ∧ sts.length ≤ c ∧ w.cell? ⟨g, i * 3, none⟩ = some (.string sts[i].name) ∧ w.cell? ⟨g, i * 3 + 1, none⟩ = some (.int .i64 (sts[i].nameAt : Int)) ∧ w.cell? ⟨g, i * 3 + 2, none⟩ = some (.slice b n' c') ∧ RulesR w base (.slice b n' c') sts[i].rules := by
  obtain ⟨a', c', hv, _, h3⟩ := h.at2
  simp only [Value.slice.injEq] at hv
  obtain ⟨rfl, rfl, rfl⟩ := hv
  exact h3
theorem RulesR.len {w : World} {base : Nat} {a : Option Addr} {n c : Nat} {rs : List Pm.Rl} (h : RulesR w base (.slice a n c) rs) : n = rs.length ∧ n ≤ 9223372036854775807 := by
  obtain ⟨a', c', hv, hm, _⟩ := h.at2
  simp only [Value.slice.injEq] at hv
  obtain ⟨rfl, rfl, rfl⟩ := hv
  exact ⟨rfl, hm⟩
theorem RulesR.at3 {w : World} {base : Nat} {a : Option Addr} {n c : Nat} {rs : List Pm.Rl} (h : RulesR w base (.slice a n c) rs) :
    ∀ i (hi : i < rs.length), ∃ g b n' c' b' n'' c'', a = some ⟨g, 0, none⟩ ∧ rs.length ≤ c ∧ w.cell? ⟨g, i * 6, none⟩ = some (.string rs[i].event) ∧ w.cell? ⟨g, i * 6 + 1, none⟩ = some (.slice b n' c') ∧ w.cell? ⟨g, i * 6 + 2, none⟩ = some (.string rs[i].goal) ∧ w.cell? ⟨g, i * 6 + 3, none⟩ = some (.slice b' n'' c'') ∧ w.cell? ⟨g, i * 6 + 4, none⟩ = some (.int .i64 (rs[i].at_ : Int)) ∧ w.cell? ⟨g, i * 6 + 5, none⟩ = some (.int .i64 (rs[i].to_ : Int)) ∧ GuardsR w base (.slice b n' c') rs[i].guards ∧ ActsR w base (.slice b' n'' c'') rs[i].actions := by
  obtain ⟨a', c', hv, _, h3⟩ := h.at2
  simp only [Value.slice.injEq] at hv
  obtain ⟨rfl, rfl, rfl⟩ := hv
  exact h3
theorem GuardsR.len {w : World} {base : Nat} {a : Option Addr} {n c : Nat} {gs : List Pm.Gd} (h : GuardsR w base (.slice a n c) gs) : n = gs.length ∧ n ≤ 9223372036854775807 := by
  obtain ⟨a', c', hv, hm, _⟩ := h.at2
  simp only [Value.slice.injEq] at hv
  obtain ⟨rfl, rfl, rfl⟩ := hv
  exact ⟨rfl, hm⟩
theorem GuardsR.at3 {w : World} {base : Nat} {a : Option Addr} {n c : Nat} {gs : List Pm.Gd} (h : GuardsR w base (.slice a n c) gs) :
    ∀ i (hi : i < gs.length), ∃ g, a = some ⟨g, 0, none⟩ ∧ gs.length ≤ c ∧ w.cell? ⟨g, i * 3, none⟩ = some (.string gs[i].word) ∧ w.cell? ⟨g, i * 3 + 1, none⟩ = some (.bool gs[i].not) ∧ w.cell? ⟨g, i * 3 + 2, none⟩ = some (.int .i64 (gs[i].at_ : Int)) := by
  obtain ⟨a', c', hv, _, h3⟩ := h.at2
  simp only [Value.slice.injEq] at hv
  obtain ⟨rfl, rfl, rfl⟩ := hv
  exact h3
theorem StatesR.at4 {w : World} {base : Nat} {g : Nat} {n c : Nat} {sts : List Pm.St} (h : StatesR w base (.slice (some ⟨g, 0, none⟩) n c) sts) (i : Nat) (hi : i < sts.length) :
    ∃ b n' c', w.cell? ⟨g, i * 3, none⟩ = some (.string sts[i].name) ∧ w.cell? ⟨g, i * 3 + 1, none⟩ = some (.int .i64 (sts[i].nameAt : Int)) ∧ w.cell? ⟨g, i * 3 + 2, none⟩ = some (.slice b n' c') ∧ RulesR w base (.slice b n' c') sts[i].rules := by
  obtain ⟨g', b, n', c', e, _, h1⟩ := h.at3 i hi
  simp at e; subst e
  exact ⟨b, n', c', h1⟩
theorem RulesR.at4 {w : World} {base : Nat} {g : Nat} {n c : Nat} {rs : List Pm.Rl} (h : RulesR w base (.slice (some ⟨g, 0, none⟩) n c) rs) (i : Nat) (hi : i < rs.length) :
    ∃ b n' c' b' n'' c'', w.cell? ⟨g, i * 6, none⟩ = some (.string rs[i].event) ∧ w.cell? ⟨g, i * 6 + 1, none⟩ = some (.slice b n' c') ∧ w.cell? ⟨g, i * 6 + 2, none⟩ = some (.string rs[i].goal) ∧ w.cell? ⟨g, i * 6 + 3, none⟩ = some (.slice b' n'' c'') ∧ w.cell? ⟨g, i * 6 + 4, none⟩ = some (.int .i64 (rs[i].at_ : Int)) ∧ w.cell? ⟨g, i * 6 + 5, none⟩ = some (.int .i64 (rs[i].to_ : Int)) ∧ GuardsR w base (.slice b n' c') rs[i].guards ∧ ActsR w base (.slice b' n'' c'') rs[i].actions := by
  obtain ⟨g', b, n', c', b', n'', c'', e, _, h1⟩ := h.at3 i hi
  simp at e; subst e
  exact ⟨b, n', c', b', n'', c'', h1⟩
theorem GuardsR.at4 {w : World} {base : Nat} {g : Nat} {n c : Nat} {gs : List Pm.Gd} (h : GuardsR w base (.slice (some ⟨g, 0, none⟩) n c) gs) (i : Nat) (hi : i < gs.length) :
    w.cell? ⟨g, i * 3, none⟩ = some (.string gs[i].word) ∧ w.cell? ⟨g, i * 3 + 1, none⟩ = some (.bool gs[i].not) ∧ w.cell? ⟨g, i * 3 + 2, none⟩ = some (.int .i64 (gs[i].at_ : Int)) := by
  obtain ⟨g', e, _, h1⟩ := h.at3 i hi
  simp at e; subst e
  exact h1
theorem GuardsR.below {w w' : World} {base : Nat} {v : Value} {gs : List Pm.Gd} (h : GuardsR w base v gs) (hb : Below w.heap.size w w') : GuardsR w' base v gs := ownsRow_same h (fun k _ h2 => hb.block k h2)
theorem RulesR.below {w w' : World} {base : Nat} {v : Value} {rs : List Pm.Rl} (h : RulesR w base v rs) (hb : Below w.heap.size w w') : RulesR w' base v rs := h.same (fun k _ h2 => hb.block k h2)
theorem StatesR.below {w w' : World} {base : Nat} {v : Value} {sts : List Pm.St} (h : StatesR w base v sts) (hb : Below w.heap.size w w') : StatesR w' base v sts := h.same (fun k _ h2 => hb.block k h2)

theorem ret_int {k : IntKind} {a b : Int} (h : a = b) : Ending.returned (.int k a) = .returned (.int k b) := by rw [h]

set_option maxHeartbeats 400000 in
theorem where_any (w : World) (base : Nat) (v : Value) (sts : List Pm.St) (name : ByteArray) (h : StatesR w base v sts) :
    Calls Tryd.prog 24 #[v, .string name] w fun e w' => e = .returned (.int .i64 (Pm.whereI sts name)) ∧ w' = w := by
  rcases h.at_ with ⟨rfl, rfl⟩ | ⟨g, cap, rfl, hb, hg, hc, hM, hat⟩
  · go_enter Tryd.func24, Tryd.ntmps24
    go_wp2
    refine wp_loop_rounds 1 ?_
    rw [rounds_succ]
    go_wp2
    go_ret
    exact ⟨rfl, rfl⟩
  · have HA := hide hat
    clear hat h
    unfold maxLen at hM
    go_enter Tryd.func24, Tryd.ntmps24
    go_wp2
    go_loop [5] (fun i => ∃ k : Nat, k ≤ sts.length ∧ i = .int .i64 (k : Int) ∧ Hid (Pm.seekAt (Pm.nameF name) sts k = Pm.whereO sts name)) (fun i => sts.length - (intOf i).toNat)
    case atStart => exact ⟨0, by omega, rfl, rfl⟩
    case round =>
      obtain ⟨k, hk, rfl, HR⟩ := hrel
      by_cases hlt : k < sts.length
      · obtain ⟨a, n, c, c0, c1, c2, hr⟩ := HA.out k hlt
        cases hq : Pm.eqB sts[k].name name
        · unfold Pm.eqB at hq
          have HN := hide (Pm.seekAt_no (f := Pm.nameF name) hlt (by simp [Pm.nameF, Pm.eqB, hq]))
          go_wp2
          go_round
          case rel => exact ⟨k + 1, by omega, by go_num, HN.out.symm.trans HR.out⟩
          case measure => simp [intOf]; omega
        · unfold Pm.eqB at hq
          have HN := hide (Pm.seekAt_yes (f := Pm.nameF name) hlt (by simp only [Pm.nameF, Pm.eqB, hq, if_true]; rfl))
          go_wp2
          go_ret
          exact ⟨ret_int (by unfold Pm.whereI; rw [← HR.out, HN.out]; rfl), rfl⟩
      · have HN := hide (Pm.seekAt_end (Pm.nameF name) sts k (by omega))
        go_wp2
        go_ret
        exact ⟨ret_int (by unfold Pm.whereI; rw [← HR.out, HN.out]; rfl), rfl⟩
end Go.Proofs.YtcijookbgliglaaDoor
