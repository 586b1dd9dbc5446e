import Derived.Test.YtcijookbgliglaaDoorYm
/- How what the program has read is read again; the walks over find. -/
namespace Go.Proofs.YtcijookbgliglaaDoor
open Go.RowKit

theorem own_len {w : World} {base : Nat} {e : TypeId} {size : Nat} {a : Option Addr} {n c m : Nat} {xs : List Value} (h : w.ownsRow base e size (.slice a n c) m xs) : n = m ∧ m ≤ 9223372036854775807 ∧ (0 < m → ∃ g, a = some ⟨g, 0, none⟩ ∧ base ≤ g ∧ g < w.heap.size ∧ m ≤ c) := by
  rcases own_shape h with ⟨hv, hn⟩ | ⟨g, cap, hv, hb, hg, h1, h2⟩
  · simp only [Value.slice.injEq] at hv
    obtain ⟨rfl, rfl, rfl⟩ := hv
    exact ⟨hn.symm, by omega, fun h => by omega⟩
  · simp only [Value.slice.injEq] at hv
    obtain ⟨rfl, rfl, rfl⟩ := hv
    exact ⟨rfl, by unfold maxLen at h2; omega, fun _ => ⟨g, rfl, hb, hg, h1⟩⟩
theorem own_take {w : World} {base : Nat} {e : TypeId} {size : Nat} {g : Nat} {n c : Nat} {xs : List Value} (h : w.ownsRow base e size (.slice (some ⟨g, 0, none⟩) n c) n xs) {i : Nat} (hi : i ≤ n) : w.ownsRow base e size (.slice (some ⟨g, 0, none⟩) i c) i (xs.take (i * size)) := by
  have hl := h.1
  rcases h.2 with ⟨hv, _⟩ | ⟨g', cap, cur, hv, hb, hh, h1, h2, h3, h4⟩
  · simp at hv
  · simp only [Value.slice.injEq, Option.some.injEq, Addr.mk.injEq] at hv
    obtain ⟨⟨rfl, _⟩, _, rfl⟩ := hv
    have hle : i * size ≤ n * size := Nat.mul_le_mul_right _ hi
    refine ⟨by rw [List.length_take, hl]; omega, .inr ⟨g, c, cur, rfl, hb, hh, by omega, h2, h3, ?_⟩⟩
    rw [← h4, List.take_take]
    congr 1
    omega
theorem flat_take {α : Type} (f : α → List Value) (k : Nat) (hk : ∀ x, (f x).length = k) : ∀ (l : List α) (i : Nat), (l.flatMap f).take (i * k) = (l.take i).flatMap f
  | [], i => by simp
  | x :: t, 0 => by simp
  | x :: t, i + 1 => by
    simp only [List.flatMap_cons, List.take_succ_cons]
    rw [Nat.succ_mul, Nat.add_comm, List.take_append, hk]
    rw [List.take_of_length_le (by rw [hk]; omega)]
    rw [show k + i * k - k = i * k from by omega, flat_take f k hk t i]

theorem GuardsC.len {w : World} {base : Nat} {a : Option Addr} {n c : Nat} {gs : List Pm.Gd} (h : GuardsC w base (.slice a n c) gs) : n = gs.length ∧ n ≤ 9223372036854775807 := by
  obtain ⟨h1, h2, _⟩ := own_len h
  exact ⟨h1, by omega⟩
theorem GuardsC.at4 {w : World} {base : Nat} {g n c : Nat} {gs : List Pm.Gd} (h : GuardsC w base (.slice (some ⟨g, 0, none⟩) n c) gs) (i : Nat) (hi : i < gs.length) :
    w.cell? ⟨g, i * 3, none⟩ = some (.int .i64 (gs[i].at_ : Int)) ∧ w.cell? ⟨g, i * 3 + 1, none⟩ = some (.string gs[i].word) ∧ w.cell? ⟨g, i * 3 + 2, none⟩ = some (.bool gs[i].not) := by
  have hfl := flat_get (fun g : Pm.Gd => [.int .i64 (g.at_ : Int), .string g.word, .bool g.not]) 3 (fun _ => rfl) gs i
  refine ⟨?_, ?_, ?_⟩
  · exact own_cell h (by have := hfl 0 hi (by omega); simpa [gdC] using this)
  · exact own_cell h (by have := hfl 1 hi (by omega); simpa [gdC] using this)
  · exact own_cell h (by have := hfl 2 hi (by omega); simpa [gdC] using this)
theorem GuardsC.isAt {w : World} {base : Nat} {a : Option Addr} {n c : Nat} {gs : List Pm.Gd} (h : GuardsC w base (.slice a n c) gs) (i : Nat) (hi : i < gs.length) : ∃ g, a = some ⟨g, 0, none⟩ ∧ g < w.heap.size ∧ gs.length ≤ c := by
  obtain ⟨_, _, h3⟩ := own_len h
  obtain ⟨g, h4, _, h5, h6⟩ := h3 (by omega)
  exact ⟨g, h4, h5, h6⟩
theorem GuardsC.take {w : World} {base : Nat} {g n c : Nat} {gs : List Pm.Gd} (h : GuardsC w base (.slice (some ⟨g, 0, none⟩) n c) gs) {i : Nat} (hi : i ≤ gs.length) : GuardsC w base (.slice (some ⟨g, 0, none⟩) i c) (gs.take i) := by
  have hl := h.len.1
  subst hl
  have := own_take h hi
  unfold GuardsC
  rw [List.length_take, Nat.min_eq_left hi]
  unfold gdC at this ⊢
  rw [flat_take _ 3 (fun _ => rfl)] at this
  exact this
theorem GuardsC.below {w w' : World} {base : Nat} {v : Value} {gs : List Pm.Gd} (h : GuardsC w base v gs) (hb : Below w.heap.size w w') : GuardsC w' base v gs := ownsRow_same h (fun k _ h2 => hb.block k h2)

theorem RulesC.len {w : World} {base : Nat} {a : Option Addr} {n c : Nat} {rs : List Pm.Rl} (h : RulesC w base (.slice a n c) rs) : n = rs.length ∧ n ≤ 9223372036854775807 := by
  obtain ⟨xs, rfl, h2, _⟩ := h
  obtain ⟨h1, h2, _⟩ := own_len h2
  exact ⟨by simpa using h1, by omega⟩
theorem RulesC.isAt {w : World} {base : Nat} {a : Option Addr} {n c : Nat} {rs : List Pm.Rl} (h : RulesC w base (.slice a n c) rs) (i : Nat) (hi : i < rs.length) : ∃ g, a = some ⟨g, 0, none⟩ ∧ g < w.heap.size ∧ rs.length ≤ c := by
  obtain ⟨xs, rfl, h2, _⟩ := h
  obtain ⟨_, _, h3⟩ := own_len h2
  obtain ⟨g, h4, _, h5, h6⟩ := h3 (by simp at hi; omega)
  exact ⟨g, h4, h5, by simpa using h6⟩
theorem RulesC.at4 {w : World} {base : Nat} {g n c : Nat} {rs : List Pm.Rl} (h : RulesC w base (.slice (some ⟨g, 0, none⟩) n c) rs) (i : Nat) (hi : i < rs.length) :
    ∃ b n' c' b' n'' c'', w.cell? ⟨g, i * 7, none⟩ = some (.int .i64 (rs[i].at_ : Int)) ∧ w.cell? ⟨g, i * 7 + 1, none⟩ = some (.int .i64 (rs[i].eventAt : Int)) ∧ w.cell? ⟨g, i * 7 + 2, none⟩ = some (.string rs[i].event) ∧ w.cell? ⟨g, i * 7 + 3, none⟩ = some (.slice b n' c') ∧ w.cell? ⟨g, i * 7 + 4, none⟩ = some (.int .i64 (rs[i].to_ : Int)) ∧ w.cell? ⟨g, i * 7 + 5, none⟩ = some (.string rs[i].goal) ∧ w.cell? ⟨g, i * 7 + 6, none⟩ = some (.slice b' n'' c'') ∧ GuardsC w base (.slice b n' c') rs[i].guards ∧ ActsC w base (.slice b' n'' c'') rs[i].actions := by
  obtain ⟨xs, rfl, h2, h3⟩ := h
  have hi' : i < xs.length := by simpa using hi
  have hr := h3 xs[i] (List.getElem_mem hi')
  have hfl := flat_get (fun x : Pm.Rl × Value × Value => [.int .i64 (x.1.at_ : Int), .int .i64 (x.1.eventAt : Int), .string x.1.event, x.2.1, .int .i64 (x.1.to_ : Int), .string x.1.goal, x.2.2]) 7 (fun _ => rfl) xs i
  obtain ⟨a1, n1, c1, hv⟩ := own_slice hr.1
  obtain ⟨a2, n2, c2, hv'⟩ := own_slice hr.2
  refine ⟨a1, n1, c1, a2, n2, c2, ?_, ?_, ?_, ?_, ?_, ?_, ?_, ?_, ?_⟩
  · exact own_cell h2 (by have := hfl 0 hi' (by omega); simpa [rlC] using this)
  · exact own_cell h2 (by have := hfl 1 hi' (by omega); simpa [rlC] using this)
  · exact own_cell h2 (by have := hfl 2 hi' (by omega); simpa [rlC] using this)
  · rw [← hv]; exact own_cell h2 (by have := hfl 3 hi' (by omega); simpa [rlC] using this)
  · exact own_cell h2 (by have := hfl 4 hi' (by omega); simpa [rlC] using this)
  · exact own_cell h2 (by have := hfl 5 hi' (by omega); simpa [rlC] using this)
  · rw [← hv']; exact own_cell h2 (by have := hfl 6 hi' (by omega); simpa [rlC] using this)
  · rw [← hv]; simp only [List.getElem_map]; exact hr.1
  · rw [← hv']; simp only [List.getElem_map]; exact hr.2
theorem RulesC.take {w : World} {base : Nat} {g n c : Nat} {rs : List Pm.Rl} (h : RulesC w base (.slice (some ⟨g, 0, none⟩) n c) rs) {i : Nat} (hi : i ≤ rs.length) : RulesC w base (.slice (some ⟨g, 0, none⟩) i c) (rs.take i) := by
  have hl := h.len.1
  obtain ⟨xs, rfl, h2, h3⟩ := h
  simp only [List.length_map] at hl hi
  subst hl
  have := own_take h2 hi
  refine ⟨xs.take i, by simp [List.map_take], ?_, fun x hx => h3 x (List.mem_of_mem_take hx)⟩
  rw [List.length_take, Nat.min_eq_left hi]
  unfold rlC at this ⊢
  rw [flat_take _ 7 (fun _ => rfl)] at this
  exact this
theorem RulesC.below {w w' : World} {base : Nat} {v : Value} {rs : List Pm.Rl} (h : RulesC w base v rs) (hb : Below w.heap.size w w') : RulesC w' base v rs := h.same (fun k _ h2 => hb.block k h2)

theorem StatesC.len {w : World} {base : Nat} {a : Option Addr} {n c : Nat} {sts : List Pm.St} (h : StatesC w base (.slice a n c) sts) : n = sts.length ∧ n ≤ 9223372036854775807 := by
  obtain ⟨xs, rfl, h2, _⟩ := h
  obtain ⟨h1, h2, _⟩ := own_len h2
  exact ⟨by simpa using h1, by omega⟩
theorem StatesC.isAt {w : World} {base : Nat} {a : Option Addr} {n c : Nat} {sts : List Pm.St} (h : StatesC w base (.slice a n c) sts) (i : Nat) (hi : i < sts.length) : ∃ g, a = some ⟨g, 0, none⟩ ∧ g < w.heap.size ∧ sts.length ≤ c := by
  obtain ⟨xs, rfl, h2, _⟩ := h
  obtain ⟨_, _, h3⟩ := own_len h2
  obtain ⟨g, h4, _, h5, h6⟩ := h3 (by simp at hi; omega)
  exact ⟨g, h4, h5, by simpa using h6⟩
theorem StatesC.at4 {w : World} {base : Nat} {g n c : Nat} {sts : List Pm.St} (h : StatesC w base (.slice (some ⟨g, 0, none⟩) n c) sts) (i : Nat) (hi : i < sts.length) :
    ∃ b n' c', w.cell? ⟨g, i * 4, none⟩ = some (.int .i64 (sts[i].at_ : Int)) ∧ w.cell? ⟨g, i * 4 + 1, none⟩ = some (.int .i64 (sts[i].nameAt : Int)) ∧ w.cell? ⟨g, i * 4 + 2, none⟩ = some (.string sts[i].name) ∧ w.cell? ⟨g, i * 4 + 3, none⟩ = some (.slice b n' c') ∧ RulesC w base (.slice b n' c') sts[i].rules := by
  obtain ⟨ys, rfl, h2, h3⟩ := h
  have hi' : i < ys.length := by simpa using hi
  have hr := h3 ys[i] (List.getElem_mem hi')
  have hfl := flat_get (fun y : Pm.St × Value => [.int .i64 (y.1.at_ : Int), .int .i64 (y.1.nameAt : Int), .string y.1.name, y.2]) 4 (fun _ => rfl) ys i
  obtain ⟨xs, hx1, hx2, hx3⟩ := hr
  obtain ⟨a, n', c', hv⟩ := own_slice hx2
  refine ⟨a, n', c', ?_, ?_, ?_, ?_, ?_⟩
  · exact own_cell h2 (by have := hfl 0 hi' (by omega); simpa [stC] using this)
  · exact own_cell h2 (by have := hfl 1 hi' (by omega); simpa [stC] using this)
  · exact own_cell h2 (by have := hfl 2 hi' (by omega); simpa [stC] using this)
  · rw [← hv]; exact own_cell h2 (by have := hfl 3 hi' (by omega); simpa [stC] using this)
  · rw [← hv]; simp only [List.getElem_map]; exact ⟨xs, hx1, hx2, hx3⟩
theorem StatesC.take {w : World} {base : Nat} {g n c : Nat} {sts : List Pm.St} (h : StatesC w base (.slice (some ⟨g, 0, none⟩) n c) sts) {i : Nat} (hi : i ≤ sts.length) : StatesC w base (.slice (some ⟨g, 0, none⟩) i c) (sts.take i) := by
  have hl := h.len.1
  obtain ⟨xs, rfl, h2, h3⟩ := h
  simp only [List.length_map] at hl hi
  subst hl
  have := own_take h2 hi
  refine ⟨xs.take i, by simp [List.map_take], ?_, fun x hx => h3 x (List.mem_of_mem_take hx)⟩
  rw [List.length_take, Nat.min_eq_left hi]
  unfold stC at this ⊢
  rw [flat_take _ 4 (fun _ => rfl)] at this
  exact this
theorem StatesC.below {w w' : World} {base : Nat} {v : Value} {sts : List Pm.St} (h : StatesC w base v sts) (hb : Below w.heap.size w w') : StatesC w' base v sts := h.same (fun k _ h2 => hb.block k h2)

set_option maxHeartbeats 400000 in
theorem find1_any (a b : Int) (t name : ByteArray) (v : Value) (x : Nat) (w : World) (hc : w.cell? ⟨x, 0, none⟩ = some (.string name)) (hx : x < w.heap.size) (hv : ∃ y n c, v = .slice y n c) :
    Calls Tryd.prog 75 #[.agg #[.int .i64 a, .int .i64 b, .string t, v], .pointer (some ⟨x, 0, none⟩)] w fun e w' => e = .returned (.bool (Pm.eqB t name)) ∧ Below w.heap.size w w' := by
  obtain ⟨y, n, c, rfl⟩ := hv
  go_enter Tryd.func75, Tryd.ntmps75
  go_wp2
  go_ret
  exact ⟨rfl, (Below.refl _ _).alloc (Nat.le_refl _) _⟩

set_option maxRecDepth 100000 in
set_option maxHeartbeats 1000000 in
theorem indexSt_any (w : World) (base : Nat) (a : Option Addr) (n c : Nat) (sts : List Pm.St) (name : ByteArray) (x : Nat) (hc : w.cell? ⟨x, 0, none⟩ = some (.string name)) (h : StatesC w base (.slice a n c) sts) :
    Calls Tryd.prog 74 #[.slice a n c, .func (Fn.func 75) #[] #[.pointer (some ⟨x, 0, none⟩)]] w fun e w' => e = .returned (.int .i64 (Pm.whereI sts name)) ∧ Below w.heap.size w w' := by
  obtain ⟨rfl, hM⟩ := h.len
  have hxl : x < w.heap.size := World.block_lt_of_cell? w _ hc
  have HS := hide h
  have HC := hide hc
  clear h hc
  go_enter Tryd.func74, Tryd.ntmps74
  go_wp2
  go_loopg [8] sts.length (fun gk i wr => ∃ k : Nat, k + gk = sts.length ∧ i = .int .i64 (k : Int) ∧ Hid (Below w.heap.size w wr) ∧ Hid (Pm.seekAt (Pm.nameF name) sts k = Pm.whereO sts name))
  case atStart => exact ⟨0, by omega, rfl, Below.refl _ _, rfl⟩
  case round =>
    obtain ⟨k, hk, rfl, HB, HR⟩ := hrel
    have hk1 : k ≤ sts.length := by omega
    have E1 := hide hk
    clear hk
    by_cases hlt : k < sts.length
    · obtain ⟨g, rfl, _, hcap⟩ := HS.out.isAt k hlt
      obtain ⟨b, n', c', c0, c1, c2, c3, -⟩ := (HS.out.below HB.out).at4 k hlt
      have hcx : wr.cell? ⟨x, 0, none⟩ = some (.string name) := (HB.out.cell (p := ⟨x, 0, none⟩) hxl).trans HC.out
      have hzx : x < wr.heap.size := by have := HB.out.size; omega
      go_wp2_with fail
      refine (find1_any _ _ _ name _ x _ hcx hzx ⟨_, _, _, rfl⟩).mono ?_
      rintro e w1 ⟨rfl, hb1⟩
      have HB1 := hide (HB.out.trans (hb1.mono HB.out.size))
      clear hb1 c0 c1 c2 c3 hcx
      cases hq : Pm.eqB sts[k].name name
      · have HN := hide (Pm.seekAt_no (f := Pm.nameF name) hlt (by simp [Pm.nameF, hq]))
        clear hq
        go_wp2
        go_roundg (sts.length - (k + 1))
        case measure => have := E1.out; omega
        case rel => exact ⟨k + 1, by omega, by go_num, HB1, HN.out.symm.trans HR.out⟩
      · have HN := hide (Pm.seekAt_yes (f := Pm.nameF name) hlt (by simp only [Pm.nameF, hq, if_true]; rfl))
        clear hq
        go_wp2
        go_ret
        exact ⟨ret_int (by unfold Pm.whereI; rw [← HR.out, HN.out]; rfl), HB1.out⟩
    · have HN := hide (Pm.seekAt_end (Pm.nameF name) sts k (by omega))
      go_wp2
      go_ret
      exact ⟨ret_int (by unfold Pm.whereI; rw [← HR.out, HN.out]; rfl), HB.out⟩

set_option maxHeartbeats 400000 in
theorem find_any (w : World) (base : Nat) (a : Option Addr) (n c : Nat) (sts : List Pm.St) (name : ByteArray) (h : StatesC w base (.slice a n c) sts) :
    Calls Tryd.prog 60 #[.slice a n c, .string name] w fun e w' => e = .returned (.tuple #[.int .i64 (Pm.whereI sts name), .bool (decide (0 ≤ Pm.whereI sts name))]) ∧ Below w.heap.size w w' := by
  have hmf : ∀ (fn : Fn) (first cap : Array Value) (W : World), (Instr.makeFunc fn first cap).run Tryd.prog W = .ok (.func fn first cap) W := fun _ _ _ _ => rfl
  have HS := hide (h.same (w' := w.alloc (.cells #[.string name] 9)) (fun _ _ h2 => Below.heap_alloc _ _ _ h2))
  clear h
  go_enter Tryd.func60, Tryd.ntmps60
  go_wp2_with fail
  refine (indexSt_any _ base _ _ _ sts name w.heap.size (blk1 (heap_alloc_new w _)).1 HS.out).mono ?_
  rintro e w1 ⟨rfl, hb1⟩
  have HB := hide (((Below.refl _ _).alloc (Nat.le_refl _) _).trans (hb1.mono (by simp)))
  clear hb1
  go_wp2
  all_goals
    go_ret2
    exact ⟨rfl, HB.out⟩
end Go.Proofs.YtcijookbgliglaaDoor

/- The walks over the program's tooMany and its guards' search. -/
namespace Go.Proofs.YtcijookbgliglaaDoor
open Go.RowKit

def placeV (o : Option Int) : Value := .tuple #[.int .i64 (o.getD 0), .bool o.isSome]

set_option maxRecDepth 100000 in
set_option maxHeartbeats 1000000 in
theorem tooMany_any (w : World) (base : Nat) (a : Option Addr) (n c : Nat) (sts : List Pm.St) (hrl : ∀ x ∈ sts, x.rules.length ≤ 301) (h : StatesC w base (.slice a n c) sts) :
    Calls Tryd.prog 44 #[.slice a n c] w fun e w' => e = .returned (placeV (Pm.manyO sts)) ∧ Below w.heap.size w w' := by
  obtain ⟨rfl, hM⟩ := h.len
  have HS := hide h
  have HRL := hide hrl
  clear h hrl
  go_enter Tryd.func44, Tryd.ntmps44
  go_wp2
  go_loopg [4, 9] sts.length (fun gk rv i wr => ∃ nn k : Nat, k + gk = sts.length ∧ k ≤ 8 ∧ nn ≤ 24 ∧ rv = .int .i64 (nn : Int) ∧ i = .int .i64 (k : Int) ∧ Hid (Below w.heap.size w wr) ∧ Hid (Pm.manyAt Pm.bg0 sts k nn = Pm.manyO sts))
  case atStart => exact ⟨0, 0, by omega, by omega, by omega, rfl, rfl, Below.refl _ _, rfl⟩
  case round =>
    obtain ⟨nn, k, hk, hk8, hnn, rfl, rfl, HB, HR⟩ := hrel
    have hk1 : k ≤ sts.length := by omega
    have E1 := hide hk
    clear hk
    by_cases hlt : k < sts.length
    · obtain ⟨g, rfl, _, hcap⟩ := HS.out.isAt k hlt
      obtain ⟨b, n', c', c0, c1, c2, c3, hr⟩ := (HS.out.below HB.out).at4 k hlt
      obtain ⟨rfl, hrm⟩ := hr.len
      have hr301 := HRL.out sts[k] (List.getElem_mem hlt)
      have HB1 := hide (HB.out.alloc HB.out.size (.cells #[.int .i64 (sts[k].at_ : Int), .int .i64 (sts[k].nameAt : Int), .string sts[k].name, .slice b sts[k].rules.length c'] 124))
      by_cases h8 : k = 8
      · have HN := hide (Pm.manyAt_st Pm.bg0 sts k nn hlt (by omega))
        have h8b : ((k : Int) == 8) = true := by simp; omega
        clear h8
        go_wp2
        go_ret2
        refine ⟨?_, HB1.out⟩
        rw [← HR.out, HN.out]; rfl
      · have h8b : ((k : Int) == 8) = false := by simp; omega
        by_cases h24 : nn + sts[k].rules.length ≤ 24
        · have HN := hide (Pm.manyAt_no Pm.bg0 sts k nn hlt (by omega) h24)
          have h24' : ¬ (24 : Int) < (nn : Int) + (sts[k].rules.length : Int) := by omega
          have hk9 : k + 1 ≤ 8 := by omega
          clear h8 hr
          go_wp2
          go_roundg (sts.length - (k + 1))
          case measure => have := E1.out; omega
          case rel => exact ⟨nn + sts[k].rules.length, k + 1, by omega, by omega, by omega, by go_num, by go_num, HB1, HN.out.symm.trans HR.out⟩
        · obtain ⟨q, hqe⟩ : ∃ q, q + nn = 24 := ⟨24 - nn, by omega⟩
          have hq : q < sts[k].rules.length := by omega
          have hix : (sts[k].rules.length : Int) - ((nn : Int) + (sts[k].rules.length : Int) - 24) = (q : Int) := by omega
          have HN := hide (Pm.manyAt_rl Pm.bg0 sts k nn q hlt (by omega) hq (by omega))
          have h24' : (24 : Int) < (nn : Int) + (sts[k].rules.length : Int) := by omega
          obtain ⟨g2, rfl, hg2, hcap2⟩ := hr.isAt q hq
          obtain ⟨_, _, _, _, _, _, e0, -⟩ := hr.at4 q hq
          clear h8 hr hqe
          go_wp2
          go_ret2
          refine ⟨?_, HB1.out⟩
          rw [← HR.out, HN.out]; rfl
    · have HN := hide (Pm.manyAt_end Pm.bg0 sts k nn (by omega))
      go_wp2
      go_ret2
      refine ⟨?_, HB.out⟩
      rw [← HR.out, HN.out]; rfl
end Go.Proofs.YtcijookbgliglaaDoor

/- The walks over the program's searches among guards. -/
namespace Go.Proofs.YtcijookbgliglaaDoor
open Go.RowKit

def sameW (w : ByteArray) (h : Pm.Gd) : Bool := Pm.eqB h.word w
def sameC (w : ByteArray) (n : Bool) (h : Pm.Gd) : Bool := Pm.eqB h.word w && (h.not == n)

set_option maxHeartbeats 400000 in
theorem already1_any (g : Pm.Gd) (ax : Int) (word : ByteArray) (nt : Bool) (x : Nat) (w : World) (_h0 : w.cell? ⟨x, 0, none⟩ = some (.int .i64 ax)) (h1 : w.cell? ⟨x, 1, none⟩ = some (.string word)) (_h2 : w.cell? ⟨x, 2, none⟩ = some (.bool nt)) (hx : x < w.heap.size) :
    Calls Tryd.prog 77 #[.agg #[.int .i64 (g.at_ : Int), .string g.word, .bool g.not], .pointer (some ⟨x, 0, none⟩)] w fun e w' => e = .returned (.bool (sameW word g)) ∧ Below w.heap.size w w' := by
  go_enter Tryd.func77, Tryd.ntmps77
  go_wp2
  go_ret
  exact ⟨rfl, (Below.refl _ _).alloc (Nat.le_refl _) _⟩

set_option maxHeartbeats 400000 in
theorem hasAll1_any (g : Pm.Gd) (ax : Int) (word : ByteArray) (nt : Bool) (x : Nat) (w : World) (_h0 : w.cell? ⟨x, 0, none⟩ = some (.int .i64 ax)) (h1 : w.cell? ⟨x, 1, none⟩ = some (.string word)) (h2 : w.cell? ⟨x, 2, none⟩ = some (.bool nt)) (hx : x < w.heap.size) :
    Calls Tryd.prog 79 #[.agg #[.int .i64 (g.at_ : Int), .string g.word, .bool g.not], .pointer (some ⟨x, 0, none⟩)] w fun e w' => e = .returned (.bool (sameC word nt g)) ∧ Below w.heap.size w w' := by
  obtain ⟨gw, gn, ga⟩ := g
  by_cases hq : gw.toList = word.toList
  · have HQ := hide hq
    cases gn <;> cases nt
    all_goals
      go_enter Tryd.func79, Tryd.ntmps79
      go_wp2
      go_ret
      exact ⟨ret_bool (by simp [sameC, Pm.eqB, HQ.out]), (Below.refl _ _).alloc (Nat.le_refl _) _⟩
  · cases gn <;> cases nt
    all_goals
      go_enter Tryd.func79, Tryd.ntmps79
      go_wp2
      go_ret
      exact ⟨ret_bool (by simp [sameC, Pm.eqB, hq]), (Below.refl _ _).alloc (Nat.le_refl _) _⟩

set_option maxRecDepth 100000 in
set_option maxHeartbeats 1000000 in
theorem indexA_any (w : World) (base : Nat) (a : Option Addr) (n c : Nat) (gs : List Pm.Gd) (ax : Int) (word : ByteArray) (nt : Bool) (x : Nat) (h0 : w.cell? ⟨x, 0, none⟩ = some (.int .i64 ax)) (h1 : w.cell? ⟨x, 1, none⟩ = some (.string word)) (h2 : w.cell? ⟨x, 2, none⟩ = some (.bool nt)) (h : GuardsC w base (.slice a n c) gs) :
    Calls Tryd.prog 89 #[.slice a n c, .func (Fn.func 77) #[] #[.pointer (some ⟨x, 0, none⟩)]] w fun e w' => ∃ r : Int, e = .returned (.int .i64 r) ∧ decide (0 ≤ r) = gs.any (sameW word) ∧ Below w.heap.size w w' := by
  obtain ⟨rfl, hM⟩ := h.len
  have hxl : x < w.heap.size := World.block_lt_of_cell? w _ h0
  have HS := hide h
  have C0 := hide h0
  have C1 := hide h1
  have C2 := hide h2
  clear h h0 h1 h2
  go_enter Tryd.func89, Tryd.ntmps89
  go_wp2
  go_loopg [8] gs.length (fun gk i wr => ∃ k : Nat, k + gk = gs.length ∧ i = .int .i64 (k : Int) ∧ Hid (Below w.heap.size w wr) ∧ Hid ((gs.take k).any (sameW word) = false))
  case atStart => exact ⟨0, by omega, rfl, Below.refl _ _, by simp [Hid]⟩
  case round =>
    obtain ⟨k, hk, rfl, HB, HR⟩ := hrel
    have hk1 : k ≤ gs.length := by omega
    have E1 := hide hk
    clear hk
    by_cases hlt : k < gs.length
    · obtain ⟨g, rfl, _, hcap⟩ := HS.out.isAt k hlt
      obtain ⟨c0, c1, c2⟩ := (HS.out.below HB.out).at4 k hlt
      have d0 := (HB.out.cell (p := ⟨x, 0, none⟩) hxl).trans C0.out
      have d1 := (HB.out.cell (p := ⟨x, 1, none⟩) hxl).trans C1.out
      have d2 := (HB.out.cell (p := ⟨x, 2, none⟩) hxl).trans C2.out
      have hzx : x < wr.heap.size := by have := HB.out.size; omega
      go_wp2_with fail
      refine (already1_any gs[k] ax word nt x _ d0 d1 d2 hzx).mono ?_
      rintro e w1 ⟨rfl, hb1⟩
      have HB1 := hide (HB.out.trans (hb1.mono HB.out.size))
      clear hb1 c0 c1 c2 d0 d1 d2
      cases hq : sameW word gs[k]
      · have HN := hide (show (gs.take (k + 1)).any (sameW word) = false by rw [Pm.take_any_succ _ _ _ hlt, HR.out, hq]; rfl)
        clear hq
        go_wp2
        go_roundg (gs.length - (k + 1))
        case measure => have := E1.out; omega
        case rel => exact ⟨k + 1, by omega, by go_num, HB1, HN⟩
      · have HN := hide (show gs.any (sameW word) = true by rw [List.any_eq_true]; exact ⟨gs[k], List.getElem_mem hlt, hq⟩)
        clear hq
        go_wp2
        go_ret
        exact ⟨_, rfl, by rw [HN.out]; simp, HB1.out⟩
    · have HN := hide (show gs.any (sameW word) = false by rw [← HR.out, List.take_of_length_le (by omega)])
      go_wp2
      go_ret
      exact ⟨_, rfl, by rw [HN.out]; rfl, HB.out⟩

set_option maxHeartbeats 400000 in
theorem containsA_any (w : World) (base : Nat) (a : Option Addr) (n c : Nat) (gs : List Pm.Gd) (ax : Int) (word : ByteArray) (nt : Bool) (x : Nat) (h0 : w.cell? ⟨x, 0, none⟩ = some (.int .i64 ax)) (h1 : w.cell? ⟨x, 1, none⟩ = some (.string word)) (h2 : w.cell? ⟨x, 2, none⟩ = some (.bool nt)) (h : GuardsC w base (.slice a n c) gs) :
    Calls Tryd.prog 76 #[.slice a n c, .func (Fn.func 77) #[] #[.pointer (some ⟨x, 0, none⟩)]] w fun e w' => e = .returned (.bool (gs.any (sameW word))) ∧ Below w.heap.size w w' := by
  have HX := hide (indexA_any w base a n c gs ax word nt x h0 h1 h2 h)
  clear h h0 h1 h2
  go_enter Tryd.func76, Tryd.ntmps76
  go_wp2_with fail
  refine HX.out.mono ?_
  rintro e w1 ⟨r, rfl, hr, hb⟩
  have HH := hide hr
  have HB := hide hb
  clear hr hb
  go_wp2_with fail
  go_ret
  exact ⟨ret_bool HH.out, HB.out⟩

set_option maxRecDepth 100000 in
set_option maxHeartbeats 1000000 in
theorem indexB_any (w : World) (base : Nat) (a : Option Addr) (n c : Nat) (gs : List Pm.Gd) (ax : Int) (word : ByteArray) (nt : Bool) (x : Nat) (h0 : w.cell? ⟨x, 0, none⟩ = some (.int .i64 ax)) (h1 : w.cell? ⟨x, 1, none⟩ = some (.string word)) (h2 : w.cell? ⟨x, 2, none⟩ = some (.bool nt)) (h : GuardsC w base (.slice a n c) gs) :
    Calls Tryd.prog 89 #[.slice a n c, .func (Fn.func 79) #[] #[.pointer (some ⟨x, 0, none⟩)]] w fun e w' => ∃ r : Int, e = .returned (.int .i64 r) ∧ decide (0 ≤ r) = gs.any (sameC word nt) ∧ Below w.heap.size w w' := by
  obtain ⟨rfl, hM⟩ := h.len
  have hxl : x < w.heap.size := World.block_lt_of_cell? w _ h0
  have HS := hide h
  have C0 := hide h0
  have C1 := hide h1
  have C2 := hide h2
  clear h h0 h1 h2
  go_enter Tryd.func89, Tryd.ntmps89
  go_wp2
  go_loopg [8] gs.length (fun gk i wr => ∃ k : Nat, k + gk = gs.length ∧ i = .int .i64 (k : Int) ∧ Hid (Below w.heap.size w wr) ∧ Hid ((gs.take k).any (sameC word nt) = false))
  case atStart => exact ⟨0, by omega, rfl, Below.refl _ _, by simp [Hid]⟩
  case round =>
    obtain ⟨k, hk, rfl, HB, HR⟩ := hrel
    have hk1 : k ≤ gs.length := by omega
    have E1 := hide hk
    clear hk
    by_cases hlt : k < gs.length
    · obtain ⟨g, rfl, _, hcap⟩ := HS.out.isAt k hlt
      obtain ⟨c0, c1, c2⟩ := (HS.out.below HB.out).at4 k hlt
      have d0 := (HB.out.cell (p := ⟨x, 0, none⟩) hxl).trans C0.out
      have d1 := (HB.out.cell (p := ⟨x, 1, none⟩) hxl).trans C1.out
      have d2 := (HB.out.cell (p := ⟨x, 2, none⟩) hxl).trans C2.out
      have hzx : x < wr.heap.size := by have := HB.out.size; omega
      go_wp2_with fail
      refine (hasAll1_any gs[k] ax word nt x _ d0 d1 d2 hzx).mono ?_
      rintro e w1 ⟨rfl, hb1⟩
      have HB1 := hide (HB.out.trans (hb1.mono HB.out.size))
      clear hb1 c0 c1 c2 d0 d1 d2
      cases hq : sameC word nt gs[k]
      · have HN := hide (show (gs.take (k + 1)).any (sameC word nt) = false by rw [Pm.take_any_succ _ _ _ hlt, HR.out, hq]; rfl)
        clear hq
        go_wp2
        go_roundg (gs.length - (k + 1))
        case measure => have := E1.out; omega
        case rel => exact ⟨k + 1, by omega, by go_num, HB1, HN⟩
      · have HN := hide (show gs.any (sameC word nt) = true by rw [List.any_eq_true]; exact ⟨gs[k], List.getElem_mem hlt, hq⟩)
        clear hq
        go_wp2
        go_ret
        exact ⟨_, rfl, by rw [HN.out]; simp, HB1.out⟩
    · have HN := hide (show gs.any (sameC word nt) = false by rw [← HR.out, List.take_of_length_le (by omega)])
      go_wp2
      go_ret
      exact ⟨_, rfl, by rw [HN.out]; rfl, HB.out⟩

set_option maxHeartbeats 400000 in
theorem containsB_any (w : World) (base : Nat) (a : Option Addr) (n c : Nat) (gs : List Pm.Gd) (ax : Int) (word : ByteArray) (nt : Bool) (x : Nat) (h0 : w.cell? ⟨x, 0, none⟩ = some (.int .i64 ax)) (h1 : w.cell? ⟨x, 1, none⟩ = some (.string word)) (h2 : w.cell? ⟨x, 2, none⟩ = some (.bool nt)) (h : GuardsC w base (.slice a n c) gs) :
    Calls Tryd.prog 76 #[.slice a n c, .func (Fn.func 79) #[] #[.pointer (some ⟨x, 0, none⟩)]] w fun e w' => e = .returned (.bool (gs.any (sameC word nt))) ∧ Below w.heap.size w w' := by
  have HX := hide (indexB_any w base a n c gs ax word nt x h0 h1 h2 h)
  clear h h0 h1 h2
  go_enter Tryd.func76, Tryd.ntmps76
  go_wp2_with fail
  refine HX.out.mono ?_
  rintro e w1 ⟨r, rfl, hr, hb⟩
  have HH := hide hr
  have HB := hide hb
  clear hr hb
  go_wp2_with fail
  go_ret
  exact ⟨ret_bool HH.out, HB.out⟩
end Go.Proofs.YtcijookbgliglaaDoor

/- The walks over the program's guardedAlready and thereAlready. -/
namespace Go.Proofs.YtcijookbgliglaaDoor
open Go.RowKit

theorem any_sameW (l : List Pm.Gd) (w : ByteArray) : l.any (sameW w) = l.any (fun h => Pm.eqB w h.word) := by
  induction l with
  | nil => rfl
  | cons h t ih => simp only [List.any_cons, ih, sameW, Pm.eqB_comm h.word w]

set_option maxRecDepth 100000 in
set_option maxHeartbeats 1000000 in
theorem guarded_any (w : World) (base : Nat) (a : Option Addr) (n c : Nat) (gs : List Pm.Gd) (h : GuardsC w base (.slice a n c) gs) :
    Calls Tryd.prog 61 #[.slice a n c] w fun e w' => e = .returned (placeV (Pm.twiceG gs)) ∧ Below w.heap.size w w' := by
  have hmf : ∀ (fn : Fn) (first cap : Array Value) (W : World), (Instr.makeFunc fn first cap).run Tryd.prog W = .ok (.func fn first cap) W := fun _ _ _ _ => rfl
  obtain ⟨rfl, hM⟩ := h.len
  have HS := hide h
  clear h
  go_enter Tryd.func61, Tryd.ntmps61
  go_wp2
  go_loopg [8] gs.length (fun gk i wr => ∃ k : Nat, k + gk = gs.length ∧ i = .int .i64 (k : Int) ∧ Hid (Below w.heap.size w wr) ∧ Hid (Pm.seekAt (Pm.gdF gs) gs k = Pm.twiceG gs))
  case atStart => exact ⟨0, by omega, rfl, Below.refl _ _, rfl⟩
  case round =>
    obtain ⟨k, hk, rfl, HB, HR⟩ := hrel
    have hk1 : k ≤ gs.length := by omega
    have E1 := hide hk
    clear hk
    by_cases hlt : k < gs.length
    · obtain ⟨g, rfl, hgl, hcap⟩ := HS.out.isAt k hlt
      obtain ⟨c0, c1, c2⟩ := (HS.out.below HB.out).at4 k hlt
      have HT := hide ((HS.out.below (HB.out.alloc HB.out.size (.cells #[.int .i64 (gs[k].at_ : Int), .string gs[k].word, .bool gs[k].not] 157))).take hk1)
      obtain ⟨q0, q1, q2, -⟩ := blk3 (heap_alloc_new wr (.cells #[.int .i64 (gs[k].at_ : Int), .string gs[k].word, .bool gs[k].not] 157))
      have Q0 := hide q0
      have Q1 := hide q1
      have Q2 := hide q2
      clear q0 q1 q2
      go_wp2_with fail
      refine (containsA_any _ base _ _ _ (gs.take k) _ gs[k].word gs[k].not wr.heap.size Q0.out Q1.out Q2.out HT.out).mono ?_
      rintro e w1 ⟨rfl, hb1⟩
      have HB1 := hide ((HB.out.alloc HB.out.size (.cells #[.int .i64 (gs[k].at_ : Int), .string gs[k].word, .bool gs[k].not] 157)).trans (hb1.mono (by have := HB.out.size; simp; omega)))
      obtain ⟨p0, p1, p2, -⟩ := blk3 ((hb1.block wr.heap.size (by simp)).trans (heap_alloc_new wr (.cells #[.int .i64 (gs[k].at_ : Int), .string gs[k].word, .bool gs[k].not] 157)))
      clear hb1 c0 c1 c2
      cases hq : (gs.take k).any (sameW gs[k].word)
      · have HN := hide (Pm.seekAt_no (f := Pm.gdF gs) hlt (by unfold Pm.gdF; rw [if_neg (by rw [← any_sameW, hq]; simp)]))
        clear hq
        go_wp2
        go_roundg (gs.length - (k + 1))
        case measure => have := E1.out; omega
        case rel => exact ⟨k + 1, by omega, by go_num, HB1, HN.out.symm.trans HR.out⟩
      · have HN := hide (Pm.seekAt_yes (f := Pm.gdF gs) hlt (by unfold Pm.gdF; rw [if_pos (by rw [← any_sameW, hq])]))
        clear hq
        go_wp2
        go_ret2
        refine ⟨?_, HB1.out⟩
        rw [← HR.out, HN.out]; rfl
    · have HN := hide (Pm.seekAt_end (Pm.gdF gs) gs k (by omega))
      go_wp2
      go_ret2
      refine ⟨?_, HB.out⟩
      rw [← HR.out, HN.out]; rfl

/-- Is the word among the first i states' words? As find tells it of the row up to there. -/
theorem find_seen (sts : List Pm.St) (i : Nat) (name : ByteArray) : decide (0 ≤ Pm.whereI (sts.take i) name) = Pm.seen sts i name := by
  have key : ∀ (l : List Pm.St) (n k : Nat), l.length - k = n → decide (0 ≤ Pm.out (Pm.seekAt (Pm.nameF name) l k)) = (l.drop k).any (fun y => Pm.eqB y.name name) := by
    intro l n
    induction n with
    | zero => intro k hk; rw [Pm.seekAt_end _ _ _ (by omega), List.drop_eq_nil_of_le (by omega)]; rfl
    | succ n ih =>
      intro k hk
      have hlt : k < l.length := by omega
      rw [List.drop_eq_getElem_cons hlt]
      cases hq : Pm.eqB l[k].name name
      · rw [Pm.seekAt_no (f := Pm.nameF name) hlt (by simp [Pm.nameF, hq]), ih (k + 1) (by omega)]
        simp only [List.any_cons, hq, Bool.false_or]
      · rw [Pm.seekAt_yes (f := Pm.nameF name) hlt (by simp only [Pm.nameF, hq, if_true]; rfl)]
        simp only [List.any_cons, hq, Bool.true_or, Pm.out, Option.getD_some]
        exact decide_eq_true (by omega)
  have := key (sts.take i) _ 0 rfl
  rw [List.drop_zero] at this
  exact this

set_option maxRecDepth 100000 in
set_option maxHeartbeats 2000000 in
theorem there_any (w : World) (base : Nat) (a : Option Addr) (n c : Nat) (sts : List Pm.St) (h : StatesC w base (.slice a n c) sts) :
    Calls Tryd.prog 45 #[.slice a n c] w fun e w' => e = .returned (placeV (Pm.doubledO sts)) ∧ Below w.heap.size w w' := by
  obtain ⟨rfl, hM⟩ := h.len
  have HS := hide h
  clear h
  go_enter Tryd.func45, Tryd.ntmps45
  go_wp2
  go_loopg [14] sts.length (fun gk i wr => ∃ k : Nat, k + gk = sts.length ∧ i = .int .i64 (k : Int) ∧ Hid (Below w.heap.size w wr) ∧ Hid (Pm.seekAt (Pm.stF2 sts) sts k = Pm.doubledO sts))
  case atStart => exact ⟨0, by omega, rfl, Below.refl _ _, rfl⟩
  case round =>
    obtain ⟨k, hk, rfl, HB, HR⟩ := hrel
    have hk1 : k ≤ sts.length := by omega
    have E1 := hide hk
    clear hk
    by_cases hlt : k < sts.length
    · obtain ⟨g, rfl, hgl, hcap⟩ := HS.out.isAt k hlt
      obtain ⟨b, n', c', c0, c1, c2, c3, hr⟩ := (HS.out.below HB.out).at4 k hlt
      obtain ⟨rfl, hrm⟩ := hr.len
      have HBA := hide (HB.out.alloc HB.out.size (.cells #[.int .i64 (sts[k].at_ : Int), .int .i64 (sts[k].nameAt : Int), .string sts[k].name, .slice b sts[k].rules.length c'] 124))
      have HT := hide ((HS.out.below HBA.out).take hk1)
      have HRl := hide (hr.same (w' := wr.alloc (.cells #[.int .i64 (sts[k].at_ : Int), .int .i64 (sts[k].nameAt : Int), .string sts[k].name, .slice b sts[k].rules.length c'] 124)) (fun _ _ h2 => Below.heap_alloc _ _ _ h2))
      have hse := find_seen sts k sts[k].name
      clear hr
      go_upto_region 4 with fail
      go_cut [6, 7] (fun x y wc => ∃ i : Int, x = .int .i64 i ∧ y = .bool (Pm.seen sts k sts[k].name) ∧ Hid (Below w.heap.size w wc) ∧ Hid (Below (wr.heap.size + 1) (wr.alloc (.cells #[.int .i64 (sts[k].at_ : Int), .int .i64 (sts[k].nameAt : Int), .string sts[k].name, .slice b sts[k].rules.length c'] 124)) wc))
      case first =>
        go_region_with (go_at_call 60; refine (find_any _ base _ _ _ (sts.take k) sts[k].name ?_).mono ?_; exact HT.out.same (fun _ _ _ => rfl); rw [hse]; rintro e w1 ⟨rfl, hb1⟩; have HB1 := hide hb1; clear hb1)
        all_goals
          go_wp2_with fail
          go_meet
          case rel => exact ⟨_, rfl, rfl, HBA.out.trans (((Below.refl _ _).drew.trans HB1.out).mono (by have := HBA.out.size; simpa using this)), ((Below.refl _ _).drew.trans HB1.out).mono (by simp)⟩
      case rest =>
        obtain ⟨i, rfl, rfl, HB1, HB2⟩ := hcut
        obtain ⟨x0, x1, x2, x3, xf⟩ := blk4 ((HB2.out.block wr.heap.size (by omega)).trans (heap_alloc_new wr (.cells #[.int .i64 (sts[k].at_ : Int), .int .i64 (sts[k].nameAt : Int), .string sts[k].name, .slice b sts[k].rules.length c'] 124)))
        clear c0 c1 c2 c3 hse
        cases hsn : Pm.seen sts k sts[k].name
        · have HX := hide (show Pm.stF2 sts k sts[k] = Pm.seekAt Pm.rlF2 sts[k].rules 0 by unfold Pm.stF2; rw [if_neg (by simp [hsn])])
          have HRc := hide (HRl.out.same (w' := wc) (fun j _ h2 => HB2.out.block j (by simpa using h2)))
          clear hsn
          go_wp2
          go_loopg [36] sts[k].rules.length (fun g2 j wi => ∃ q : Nat, q + g2 = sts[k].rules.length ∧ j = .int .i64 (q : Int) ∧ Hid (Below w.heap.size w wi) ∧ Hid (RulesC wi base (.slice b sts[k].rules.length c') sts[k].rules) ∧ Hid (Pm.seekAt Pm.rlF2 sts[k].rules q = Pm.seekAt Pm.rlF2 sts[k].rules 0))
          case atStart => exact ⟨0, by omega, rfl, HB1, HRc, rfl⟩
          case round =>
            clear HRc x0 x1 x2 x3 xf HB1 HB2
            obtain ⟨q, hq, rfl, HB1, HRc, HR2⟩ := hrel
            have hq1 : q ≤ sts[k].rules.length := by omega
            have E2 := hide hq
            clear hq
            by_cases hql : q < sts[k].rules.length
            · obtain ⟨g2, rfl, hg2, hcap2⟩ := HRc.out.isAt q hql
              obtain ⟨b1, n1, d1, b2, n2, d2, e0, e1, e2, e3, e4, e5, e6, hgg, -⟩ := HRc.out.at4 q hql
              have HRA := hide (HRc.out.below ((Below.refl _ _).alloc (Nat.le_refl _) (.cells #[.int .i64 (sts[k].rules[q].at_ : Int), .int .i64 (sts[k].rules[q].eventAt : Int), .string sts[k].rules[q].event, .slice b1 n1 d1, .int .i64 (sts[k].rules[q].to_ : Int), .string sts[k].rules[q].goal, .slice b2 n2 d2] 128)))
              have HGA := hide (hgg.below ((Below.refl _ _).alloc (Nat.le_refl _) (.cells #[.int .i64 (sts[k].rules[q].at_ : Int), .int .i64 (sts[k].rules[q].eventAt : Int), .string sts[k].rules[q].event, .slice b1 n1 d1, .int .i64 (sts[k].rules[q].to_ : Int), .string sts[k].rules[q].goal, .slice b2 n2 d2] 128)))
              clear hgg
              go_wp2_with fail
              refine (guarded_any _ base _ _ _ sts[k].rules[q].guards HGA.out).mono ?_
              rintro e w2 ⟨rfl, hb2⟩
              have HB3 := hide ((HB1.out.alloc HB1.out.size (.cells #[.int .i64 (sts[k].rules[q].at_ : Int), .int .i64 (sts[k].rules[q].eventAt : Int), .string sts[k].rules[q].event, .slice b1 n1 d1, .int .i64 (sts[k].rules[q].to_ : Int), .string sts[k].rules[q].goal, .slice b2 n2 d2] 128)).trans (hb2.mono (by have := HB1.out.size; simp; omega)))
              have HR3 := hide (HRA.out.below hb2)
              clear hb2 e0 e1 e2 e3 e4 e5 e6
              cases htw : Pm.twiceG sts[k].rules[q].guards with
              | none =>
                have HN := hide (Pm.seekAt_no (f := Pm.rlF2) hql htw)
                simp only [placeV, Option.getD_none, Option.isSome_none]
                clear htw
                go_wp2
                go_roundg (sts[k].rules.length - (q + 1))
                case measure => have := E2.out; omega
                case rel => exact ⟨q + 1, by omega, by go_num, HB3, HR3, HN.out.symm.trans HR2.out⟩
              | some r =>
                have HN := hide (Pm.seekAt_yes (f := Pm.rlF2) hql htw)
                have HN3 := hide (Pm.seekAt_yes (f := Pm.stF2 sts) hlt (HX.out.trans (HR2.out.symm.trans HN.out)))
                simp only [placeV, Option.getD_some, Option.isSome_some]
                clear htw
                go_wp2
                go_ret2
                refine ⟨?_, HB3.out⟩
                rw [← HR.out, HN3.out]; rfl
            · have HN := hide (Pm.seekAt_no (f := Pm.stF2 sts) hlt (by rw [HX.out, ← HR2.out]; exact Pm.seekAt_end _ _ _ (by omega)))
              go_wp2
              go_roundg (sts.length - (k + 1))
              case measure => have := E1.out; omega
              case rel => exact ⟨k + 1, by omega, by go_num, HB1, HN.out.symm.trans HR.out⟩
        · have HN := hide (Pm.seekAt_yes (f := Pm.stF2 sts) hlt (by unfold Pm.stF2; rw [if_pos hsn]))
          clear hsn
          go_wp2
          go_ret2
          refine ⟨?_, HB1.out⟩
          rw [← HR.out, HN.out]; rfl
    · have HN := hide (Pm.seekAt_end (Pm.stF2 sts) sts k (by omega))
      go_wp2
      go_ret2
      refine ⟨?_, HB.out⟩
      rw [← HR.out, HN.out]; rfl
end Go.Proofs.YtcijookbgliglaaDoor
