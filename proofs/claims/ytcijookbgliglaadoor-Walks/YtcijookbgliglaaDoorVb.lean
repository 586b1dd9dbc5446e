import Derived.Test.YtcijookbgliglaaDoorVa
/- The first step that is taken: the walk over the program's first. -/
namespace Go.Proofs.YtcijookbgliglaaDoor
open Go.RowKit

theorem CondsC.len {w : World} {base : Nat} {a : Option Addr} {n c : Nat} {gs : List Pm.Gd} (h : CondsC w base (.slice a n c) gs) : n = gs.length ∧ n ≤ 9223372036854775807 := by
  obtain ⟨h1, h2, _⟩ := own_len h
  exact ⟨h1, by omega⟩
theorem CondsC.isAt {w : World} {base : Nat} {a : Option Addr} {n c : Nat} {gs : List Pm.Gd} (h : CondsC w base (.slice a n c) gs) (i : Nat) (hi : i < gs.length) : ∃ g, a = some ⟨g, 0, none⟩ ∧ g < w.heap.size ∧ gs.length ≤ c := by
  obtain ⟨_, _, h3⟩ := own_len h
  obtain ⟨g, h4, _, h5, h6⟩ := h3 (by omega)
  exact ⟨g, h4, h5, h6⟩
theorem CondsC.at4 {w : World} {base : Nat} {g n c : Nat} {gs : List Pm.Gd} (h : CondsC w base (.slice (some ⟨g, 0, none⟩) n c) gs) (i : Nat) (hi : i < gs.length) :
    w.cell? ⟨g, i * 2, none⟩ = some (.string gs[i].word) ∧ w.cell? ⟨g, i * 2 + 1, none⟩ = some (.bool gs[i].not) := by
  have hfl := flat_get (fun g : Pm.Gd => [.string g.word, .bool g.not]) 2 (fun _ => rfl) gs i
  refine ⟨?_, ?_⟩
  · exact own_cell h (by have := hfl 0 hi (by omega); simpa [cdC] using this)
  · exact own_cell h (by have := hfl 1 hi (by omega); simpa [cdC] using this)
theorem CondsC.below {w w' : World} {base : Nat} {v : Value} {gs : List Pm.Gd} (h : CondsC w base v gs) (hb : Below w.heap.size w w') : CondsC w' base v gs := ownsRow_same h (fun k _ h2 => hb.block k h2)
theorem StepsC.len {w : World} {base : Nat} {sts : List Pm.St} {a : Option Addr} {n c : Nat} {es : List Se} (h : StepsC w base sts (.slice a n c) es) : n = es.length ∧ n ≤ 9223372036854775807 := by
  obtain ⟨xs, rfl, h2, _⟩ := h
  obtain ⟨h1, h2, _⟩ := own_len h2
  exact ⟨by simpa using h1, by omega⟩
theorem StepsC.isAt {w : World} {base : Nat} {sts : List Pm.St} {a : Option Addr} {n c : Nat} {es : List Se} (h : StepsC w base sts (.slice a n c) es) (i : Nat) (hi : i < es.length) : ∃ g, a = some ⟨g, 0, none⟩ ∧ g < w.heap.size ∧ es.length ≤ c := by
  obtain ⟨xs, rfl, h2, _⟩ := h
  obtain ⟨_, _, h3⟩ := own_len h2
  obtain ⟨g, h4, _, h5, h6⟩ := h3 (by simp at hi; omega)
  exact ⟨g, h4, h5, by simpa using h6⟩
theorem StepsC.below {w w' : World} {base : Nat} {sts : List Pm.St} {v : Value} {es : List Se} (h : StepsC w base sts v es) (hb : Below w.heap.size w w') : StepsC w' base sts v es := h.same (fun k _ h2 => hb.block k h2)
theorem StepsC.at4 {w : World} {base : Nat} {sts : List Pm.St} {g n c : Nat} {es : List Se} (h : StepsC w base sts (.slice (some ⟨g, 0, none⟩) n c) es) (i : Nat) (hi : i < es.length) :
    ∃ b n' c' b' n'' c'', w.cell? ⟨g, i * 4, none⟩ = some (.int .i64 (es[i].1 : Int)) ∧ w.cell? ⟨g, i * 4 + 1, none⟩ = some (.slice b n' c') ∧ w.cell? ⟨g, i * 4 + 2, none⟩ = some (.int .i64 (goalOf sts es[i].2.goal)) ∧ w.cell? ⟨g, i * 4 + 3, none⟩ = some (.slice b' n'' c'') ∧ CondsC w base (.slice b n' c') es[i].2.guards ∧ ActsR w base (.slice b' n'' c'') es[i].2.actions := by
  obtain ⟨xs, rfl, h2, h3⟩ := h
  have hi' : i < xs.length := by simpa using hi
  have hr := h3 xs[i] (List.getElem_mem hi')
  have hfl := flat_get (fun x : Se × Value × Value => [.int .i64 (x.1.1 : Int), x.2.1, .int .i64 (goalOf sts x.1.2.goal), x.2.2]) 4 (fun _ => rfl) xs i
  obtain ⟨a1, n1, c1, hv⟩ := own_slice hr.1
  obtain ⟨a2, n2, c2, hv'⟩ := own_slice hr.2
  refine ⟨a1, n1, c1, a2, n2, c2, ?_, ?_, ?_, ?_, ?_, ?_⟩
  · exact own_cell h2 (by have := hfl 0 hi' (by omega); simpa [stpC] using this)
  · rw [← hv]; exact own_cell h2 (by have := hfl 1 hi' (by omega); simpa [stpC] using this)
  · exact own_cell h2 (by have := hfl 2 hi' (by omega); simpa [stpC] using this)
  · rw [← hv']; exact own_cell h2 (by have := hfl 3 hi' (by omega); simpa [stpC] using this)
  · rw [← hv]; simp only [List.getElem_map]; exact hr.1
  · rw [← hv']; simp only [List.getElem_map]; exact hr.2
theorem find_at {α : Type} (p : α → Bool) (l : List α) (k : Nat) (hk : k < l.length) (h : ∀ x ∈ l.take k, p x = false) (hp : p l[k] = true) : l.find? p = some l[k] := by
  have e : l = l.take k ++ l[k] :: l.drop (k + 1) := by
    rw [← List.drop_eq_getElem_cons hk, List.take_append_drop]
  have h0 : (l.take k).find? p = none := List.find?_eq_none.2 (fun x hx => by simp [h x hx])
  conv => lhs; rw [e]
  rw [List.find?_append, h0, List.find?_cons_of_pos hp]
  rfl
theorem take_not_succ {α : Type} (p : α → Bool) (l : List α) (k : Nat) (hk : k < l.length) (h : ∀ x ∈ l.take k, p x = false) (hp : p l[k] = false) : ∀ x ∈ l.take (k + 1), p x = false := by
  intro x hx
  rw [List.take_succ_eq_append_getElem hk] at hx
  rcases List.mem_append.1 hx with hx | hx
  · exact h x hx
  · simp at hx; subst hx; exact hp
theorem all_not {α : Type} (p : α → Bool) (l : List α) (k : Nat) (hk : k < l.length) (hp : p l[k] = false) : l.all p = false := by
  cases e : l.all p
  · rfl
  · rw [List.all_eq_true] at e
    have := e l[k] (List.getElem_mem hk)
    rw [hp] at this; cases this

/-- What first answers. -/
def FirstOut (w : World) (base : Nat) (sts : List Pm.St) (o : Option Se) (e : Ending) : Prop := match o with
  | none => e = .returned (.tuple #[.agg #[.int .i64 0, .slice none 0 0, .int .i64 0, .slice none 0 0], .bool false])
  | some x => ∃ a1 n1 c1 a2 n2 c2, e = .returned (.tuple #[.agg #[.int .i64 (x.1 : Int), .slice a1 n1 c1, .int .i64 (goalOf sts x.2.goal), .slice a2 n2 c2], .bool true]) ∧ ActsR w base (.slice a2 n2 c2) x.2.actions

set_option maxRecDepth 100000 in
set_option maxHeartbeats 4000000 in
theorem first_any (w : World) (base : Nat) (sts : List Pm.St) (a : Option Addr) (n c : Nat) (es : List Se) (v : Value) (hs : List ByteArray) (h : StepsC w base sts (.slice a n c) es) (hh : StrsA w v hs) :
    Calls Tryd.prog 37 #[.slice a n c, v] w fun e w' => Below w.heap.size w w' ∧ FirstOut w base sts (es.find? fun e => Pm.allMet hs e.2) e := by
  obtain ⟨rfl, hM⟩ := h.len
  have HS := hide h
  have HH := hide hh
  obtain ⟨ha, hc, rfl, -⟩ := hh
  clear h
  go_enter Tryd.func37, Tryd.ntmps37
  go_wp2
  go_step3
  go_wp2
  go_step3
  go_wp2
  go_loopg [12] es.length (fun gk i wr => ∃ k : Nat, k + gk = es.length ∧ i = .int .i64 (k : Int) ∧ Hid (Below w.heap.size w wr) ∧ Hid (wr.heap[w.heap.size]? = some (.cells #[.int .i64 0, .slice none 0 0, .int .i64 0, .slice none 0 0] 100 (0, 0))) ∧ Hid (∀ x ∈ es.take k, Pm.allMet hs x.2 = false))
  case atStart => exact ⟨0, by omega, rfl, (Below.refl _ _).alloc (Nat.le_refl _) _, heap_alloc_new w _, fun x hx => by simp at hx⟩
  case round =>
    rename World => w0
    obtain ⟨k, hk, rfl, HB, HQ, HR⟩ := hrel
    have hk1 : k ≤ es.length := by omega
    have E1 := hide hk
    clear hk
    have hzq : w.heap.size < w0.heap.size := (Array.getElem?_eq_some_iff.1 HQ.out).1
    obtain ⟨z0, z1, z2, z3, zf⟩ := blk4 HQ.out
    by_cases hlt : k < es.length
    · obtain ⟨g, rfl, hgl, hcap⟩ := HS.out.isAt k hlt
      obtain ⟨b1, n1, d1, b2, n2, d2, e0, e1, e2, e3, hG, hAc⟩ := (HS.out.below HB.out).at4 k hlt
      obtain ⟨rfl, hgm⟩ := hG.len
      have HAc := hide (show ActsR w base (.slice b2 n2 d2) es[k].2.actions by
        obtain ⟨b1', n1', d1', b2', n2', d2', _, _, _, e3', _, hA'⟩ := HS.out.at4 k hlt
        have := (HB.out.cell (p := ⟨g, k * 4 + 3, none⟩) hgl).trans e3'
        rw [e3] at this
        simp at this
        obtain ⟨rfl, rfl, rfl⟩ := this
        exact hA')
      have hgl0 : g < w0.heap.size := by omega
      have HBa := hide ((Below.refl w0.heap.size w0).alloc (Nat.le_refl _) (.cells #[.int .i64 (es[k].1 : Int), .slice b1 es[k].2.guards.length d1, .int .i64 (goalOf sts es[k].2.goal), .slice b2 n2 d2] 100))
      have HGa := hide (hG.below HBa.out)
      have HHa := hide ((HH.out.below HB.out (Nat.le_refl _)).below HBa.out (Nat.le_refl _))
      have HNa := hide (heap_alloc_new w0 (.cells #[.int .i64 (es[k].1 : Int), .slice b1 es[k].2.guards.length d1, .int .i64 (goalOf sts es[k].2.goal), .slice b2 n2 d2] 100))
      have HQa := hide ((Below.heap_alloc w0 (.cells #[.int .i64 (es[k].1 : Int), .slice b1 es[k].2.guards.length d1, .int .i64 (goalOf sts es[k].2.goal), .slice b2 n2 d2] 100) w.heap.size hzq).trans HQ.out)
      clear hG hAc
      go_wp2_with fail
      go_loopg [19] es[k].2.guards.length (fun g2 j wi => ∃ q : Nat, q + g2 = es[k].2.guards.length ∧ j = .int .i64 (q : Int) ∧ Hid (Below (w0.heap.size + 1) (w0.alloc (.cells #[.int .i64 (es[k].1 : Int), .slice b1 es[k].2.guards.length d1, .int .i64 (goalOf sts es[k].2.goal), .slice b2 n2 d2] 100)) wi) ∧ Hid ((es[k].2.guards.take q).all (Pm.met hs) = true))
      case atStart => exact ⟨0, by omega, rfl, Below.refl _ _, by simp [Hid]⟩
      case round =>
        clear e0 e1 e2 e3 z0 z1 z2 z3 zf
        obtain ⟨q, hq, rfl, HBi, HR2⟩ := hrel
        have hq1 : q ≤ es[k].2.guards.length := by omega
        have E2 := hide hq
        clear hq
        have hzi := HBi.out.size
        simp only [World.size_alloc] at hzi
        have HGi := hide (HGa.out.below (HBi.out.mono (by simp)))
        have HHi := hide (HHa.out.below (HBi.out) (by simp))
        have HNi := hide ((HBi.out.block w0.heap.size (by omega)).trans HNa.out)
        have HQi := hide ((HBi.out.block w.heap.size (by omega)).trans HQa.out)
        obtain ⟨y0, y1, y2, y3, yf⟩ := blk4 HNi.out
        obtain ⟨z0, z1, z2, z3, zf⟩ := blk4 HQi.out
        have hBw : Below w.heap.size w wr := HB.out.trans ((HBa.out.trans (HBi.out.mono (by omega))).mono HB.out.size)
        have HBw := hide hBw
        clear hBw
        by_cases hql : q < es[k].2.guards.length
        · obtain ⟨g2, rfl, hg2, hcap2⟩ := HGi.out.isAt q hql
          obtain ⟨f0, f1⟩ := HGi.out.at4 q hql
          have HBb := hide ((Below.refl wr.heap.size wr).alloc (Nat.le_refl _) (.cells #[.string es[k].2.guards[q].word, .bool es[k].2.guards[q].not] 134))
          go_wp2_with fail
          refine (met_any _ es[k].2.guards[q] _ hs (HHi.out.below HBb.out (Nat.le_refl _))).mono ?_
          rintro e w5 ⟨rfl, hb5⟩
          have HB5 := hide hb5
          have HB6 := hide (HBi.out.trans ((HBb.out.trans (hb5.mono (by simp))).mono (by omega)))
          have HB7 := hide (HBw.out.trans ((HBb.out.trans (hb5.mono (by simp))).mono HBw.out.size))
          clear hb5
          cases hmt : Pm.met hs es[k].2.guards[q]
          · have HN := hide (take_not_succ (fun x : Se => Pm.allMet hs x.2) es k hlt HR.out (all_not _ _ q hql hmt))
            have HQ5 := hide ((HB6.out.block w.heap.size (by omega)).trans HQa.out)
            clear hmt
            go_wp2_with fail
            go_roundg (es.length - (k + 1))
            case measure => have := E1.out; omega
            case rel => exact ⟨k + 1, by omega, by go_num, HB7, HQ5, HN⟩
          · have HN := hide (show (es[k].2.guards.take (q + 1)).all (Pm.met hs) = true by rw [Pm.take_all_succ _ _ _ hql, HR2.out, hmt]; rfl)
            clear hmt
            go_wp2_with fail
            go_roundg (es[k].2.guards.length - (q + 1))
            case measure => have := E2.out; omega
            case rel => exact ⟨q + 1, by omega, by go_num, HB6, HN⟩
        · have HN := hide (find_at (fun x : Se => Pm.allMet hs x.2) es k hlt HR.out (by have := HR2.out; rw [List.take_of_length_le (by omega)] at this; exact this))
          go_wp2_with fail
          rw [Exit.noGoto_ret]
          refine bodyPost_ret (v := .tuple #[.agg #[.int .i64 (es[k].1 : Int), .slice b1 es[k].2.guards.length d1, .int .i64 (goalOf sts es[k].2.goal), .slice b2 n2 d2], .bool true]) (by simp [results, Tryd.results37, go_sem, z0, z1, z2, z3]) rfl ?_
          rw [HN.out]
          exact ⟨(((HBw.out.setCell (by simp) _).setCell (by simp) _).setCell (by simp) _).setCell (by simp) _, _, _, _, _, _, _, rfl, HAc.out⟩
    · have hkk : k = es.length := by omega
      subst hkk
      have HN := hide (show (es.find? fun e => Pm.allMet hs e.2) = none from List.find?_eq_none.2 (fun x hx => by have := HR.out x (by rw [List.take_length]; exact hx); simp [this]))
      go_wp2_with fail
      rw [Exit.noGoto_ret]
      refine bodyPost_ret (v := .tuple #[.agg #[.int .i64 0, .slice none 0 0, .int .i64 0, .slice none 0 0], .bool false]) (by simp [results, Tryd.results37, go_sem, z0, z1, z2, z3]) rfl ?_
      rw [HN.out]
      exact ⟨(((HB.out.setCell (by simp) _).setCell (by simp) _).setCell (by simp) _).setCell (by simp) _, rfl⟩
end Go.Proofs.YtcijookbgliglaaDoor
