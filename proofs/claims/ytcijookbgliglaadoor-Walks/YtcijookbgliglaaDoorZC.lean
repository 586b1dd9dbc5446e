import Derived.Test.YtcijookbgliglaaDoorZB
/- Rows of plain numbers, and the searches among them. -/
namespace Go.Proofs.YtcijookbgliglaaDoor
open Go.RowKit

def IntsC (w : World) (base : Nat) (v : Value) (l : List Nat) : Prop := w.ownsRow base 3 1 v l.length (l.map fun x : Nat => Value.int .i64 (x : Int))
theorem IntsC.len {w : World} {base : Nat} {a : Option Addr} {n c : Nat} {l : List Nat} (h : IntsC w base (.slice a n c) l) : n = l.length ∧ n ≤ 9223372036854775807 := by
  obtain ⟨h1, h2, _⟩ := own_len h
  exact ⟨h1, by omega⟩
theorem IntsC.at4 {w : World} {base : Nat} {g n c : Nat} {l : List Nat} (h : IntsC w base (.slice (some ⟨g, 0, none⟩) n c) l) (i : Nat) (hi : i < l.length) : w.cell? ⟨g, i, none⟩ = some (.int .i64 (l[i] : Int)) := by
  have := own_cell h (j := i) (u := .int .i64 (l[i] : Int)) (by rw [List.getElem?_map, List.getElem?_eq_getElem hi]; rfl)
  exact this
theorem IntsC.isAt {w : World} {base : Nat} {a : Option Addr} {n c : Nat} {l : List Nat} (h : IntsC w base (.slice a n c) l) (i : Nat) (hi : i < l.length) : ∃ g, a = some ⟨g, 0, none⟩ ∧ base ≤ g ∧ g < w.heap.size ∧ l.length ≤ c := by
  obtain ⟨_, _, h3⟩ := own_len h
  exact h3 (by omega)
theorem IntsC.below {w w' : World} {base : Nat} {v : Value} {l : List Nat} (h : IntsC w base v l) (hb : Below w.heap.size w w') : IntsC w' base v l := ownsRow_same h (fun k _ h2 => hb.block k h2)

theorem few : ∀ (n : Nat) (l : List Nat), l.Nodup → (∀ x ∈ l, x < n) → l.length ≤ n
  | 0, l, _, h => by
    cases l with
    | nil => simp
    | cons x t => exact absurd (h x (by simp)) (by omega)
  | n + 1, l, hn, h => by
    have h1 := few n (l.erase n) (hn.erase n) (fun x hx => by
      have h2 := h x (List.mem_of_mem_erase hx)
      have h3 : x ≠ n := fun e => by subst e; exact (hn.mem_erase_iff.1 hx).1 rfl
      omega)
    have h4 := List.length_erase (a := n) (l := l)
    split at h4 <;> omega

set_option maxRecDepth 100000 in
set_option maxHeartbeats 1000000 in
theorem indexI_any (w : World) (base : Nat) (a : Option Addr) (n c : Nat) (l : List Nat) (x : Nat) (hl : ∀ y ∈ l, y ≤ 9223372036854775807) (h : IntsC w base (.slice a n c) l) :
    Calls Tryd.prog 80 #[.slice a n c, .int .i64 (x : Int)] w fun e w' => ∃ r : Int, e = .returned (.int .i64 r) ∧ decide (0 ≤ r) = l.contains x ∧ Below w.heap.size w w' := by
  obtain ⟨rfl, hM⟩ := h.len
  have HS := hide h
  have HL := hide hl
  clear h hl
  go_enter Tryd.func80, Tryd.ntmps80
  go_wp2
  go_loopg [8] l.length (fun gk i wr => ∃ k : Nat, k + gk = l.length ∧ i = .int .i64 (k : Int) ∧ Hid (Below w.heap.size w wr) ∧ Hid (x ∉ l.take k))
  case atStart => exact ⟨0, by omega, rfl, Below.refl _ _, by simp [Hid]⟩
  case round =>
    obtain ⟨k, hk, rfl, HB, HR⟩ := hrel
    have hk1 : k ≤ l.length := by omega
    have E1 := hide hk
    clear hk
    by_cases hlt : k < l.length
    · obtain ⟨g, rfl, _, _, hcap⟩ := HS.out.isAt k hlt
      have d0 := (HS.out.below HB.out).at4 k hlt
      have hlk := HL.out l[k] (List.getElem_mem hlt)
      by_cases hq : x = l[k]
      · have HN := hide (show l.contains x = true by rw [List.contains_iff_mem, hq]; exact List.getElem_mem hlt)
        have hq1 : ((x : Int) == (l[k] : Int)) = true := by simp [hq]
        have hq2 : (x : Int) = (l[k] : Int) := by omega
        clear hq
        go_wp2
        go_ret
        exact ⟨_, rfl, by rw [HN.out]; simp, HB.out⟩
      · have HN := hide (show x ∉ l.take (k + 1) by rw [List.take_succ_eq_append_getElem hlt]; simp only [List.mem_append, List.mem_singleton, not_or]; exact ⟨HR.out, hq⟩)
        have hq1 : ((x : Int) == (l[k] : Int)) = false := by simp; omega
        have hq2 : ¬ (x : Int) = (l[k] : Int) := by omega
        clear hq
        go_wp2
        go_roundg (l.length - (k + 1))
        case measure => have := E1.out; omega
        case rel => exact ⟨k + 1, by omega, by go_num, HB, HN⟩
    · have HN := hide (show l.contains x = false by
        have h1 := HR.out
        rw [List.take_of_length_le (by omega)] at h1
        cases h2 : l.contains x
        · rfl
        · exact absurd (List.contains_iff_mem.1 h2) h1)
      go_wp2
      go_ret
      exact ⟨_, rfl, by rw [HN.out]; rfl, HB.out⟩

set_option maxHeartbeats 400000 in
theorem containsI_any (w : World) (base : Nat) (a : Option Addr) (n c : Nat) (l : List Nat) (x : Nat) (hl : ∀ y ∈ l, y ≤ 9223372036854775807) (h : IntsC w base (.slice a n c) l) :
    Calls Tryd.prog 64 #[.slice a n c, .int .i64 (x : Int)] w fun e w' => e = .returned (.bool (l.contains x)) ∧ Below w.heap.size w w' := by
  have HX := hide (indexI_any w base a n c l x hl h)
  clear h hl
  go_enter Tryd.func64, Tryd.ntmps64
  go_wp2_with fail
  refine HX.out.mono ?_
  rintro e w1 ⟨r, rfl, hr, hb⟩
  have HH := hide hr
  have HB := hide hb
  clear hr hb
  go_wp2_with fail
  go_ret
  exact ⟨ret_bool HH.out, HB.out⟩
end Go.Proofs.YtcijookbgliglaaDoor

/- The walk over the program's lost. -/
namespace Go.Proofs.YtcijookbgliglaaDoor
open Go.RowKit

/-- What has been come to, all goals of the first i of it among it. -/
structure Bfs (sts : List Pm.St) (i : Nat) (l : List Nat) : Prop where
  nd : l.Nodup
  lt : ∀ x ∈ l, x < sts.length
  re : ∀ x ∈ l, Pm.Reach sts x
  zero : 0 ∈ l
  cl : ∀ (p : Nat) (h : p < l.length), p < i → ∀ j, Pm.Edge sts l[p] j → j ∈ l
theorem Bfs.start {sts : List Pm.St} (h : 0 < sts.length) : Bfs sts 0 [0] :=
  ⟨by simp, fun x hx => by simp at hx; omega, fun x hx => by simp at hx; subst hx; exact .zero, by simp, fun p _ hp => by omega⟩
theorem Bfs.len {sts : List Pm.St} {i : Nat} {l : List Nat} (h : Bfs sts i l) : l.length ≤ sts.length := few _ _ h.nd h.lt
theorem Bfs.add {sts : List Pm.St} {i : Nat} {l : List Nat} (h : Bfs sts i l) {j : Nat} (hj : j ∉ l) (hjl : j < sts.length) (hjr : Pm.Reach sts j) (hi : i ≤ l.length) : Bfs sts i (l ++ [j]) := by
  refine ⟨?_, ?_, ?_, ?_, ?_⟩
  · rw [List.nodup_append]
    refine ⟨h.nd, by simp, ?_⟩
    intro a ha b hb e
    simp at hb
    subst hb; subst e
    exact hj ha
  · intro x hx
    rcases List.mem_append.1 hx with hx | hx
    · exact h.lt x hx
    · simp at hx; omega
  · intro x hx
    rcases List.mem_append.1 hx with hx | hx
    · exact h.re x hx
    · simp at hx; subst hx; exact hjr
  · exact List.mem_append.2 (.inl h.zero)
  · intro p hp hpi k hk
    rw [List.getElem_append_left (by omega)] at hk
    exact List.mem_append.2 (.inl (h.cl p (by omega) hpi k hk))
theorem Bfs.next {sts : List Pm.St} {i x : Nat} {l : List Nat} (h : Bfs sts i l) (hi : i < l.length) (hx : l[i] = x) (hxl : x < sts.length) (ha : ∀ r ∈ sts[x].rules, ∀ j : Nat, Pm.whereI sts r.goal = (j : Int) → j ∈ l) : Bfs sts (i + 1) l := by
  refine ⟨h.nd, h.lt, h.re, h.zero, ?_⟩
  intro p hp hpi j hj
  by_cases e : p < i
  · exact h.cl p hp e j hj
  · have : p = i := by omega
    subst this
    subst hx
    obtain ⟨_, r, hr, hw⟩ := hj
    exact ha r hr j hw
theorem Bfs.done {sts : List Pm.St} {l : List Nat} (h : Bfs sts l.length l) (x : Nat) : Pm.Reach sts x ↔ x ∈ l := by
  refine ⟨fun hr => ?_, h.re x⟩
  induction hr with
  | zero => exact h.zero
  | step _ he ih =>
    obtain ⟨p, hp, hpe⟩ := List.getElem_of_mem ih
    subst hpe
    exact h.cl p hp hp _ he

theorem Tryd.underlyingInts : Tryd.prog.underlying 145 = some (.slice 3) := by kernel_rfl
theorem Tryd.infoInt : (Tryd.prog.info? 3).map (fun i => (i.zero, i.size, i.bytes)) = some (some (.int .i64 0), 1, 8) := by kernel_rfl
theorem one1I {a : Int} : ∀ u ∈ [Value.int .i64 a], u.oneCell' = true := by
  intro u hu; simp at hu; subst hu; rfl

set_option maxRecDepth 100000 in
set_option maxHeartbeats 4000000 in
theorem lostC_any (w : World) (base : Nat) (a : Option Addr) (n c : Nat) (sts : List Pm.St) (hs0 : 0 < sts.length) (hsl : sts.length ≤ 301) (h : StatesC w base (.slice a n c) sts) :
    Calls Tryd.prog 48 #[.slice a n c] w fun e w' => e = .returned (placeV (Pm.lostO sts)) ∧ Below w.heap.size w w' := by
  obtain ⟨rfl, hM⟩ := h.len
  obtain ⟨iI, hI, hI0, hI1, hI2⟩ := info_parts Tryd.infoInt
  obtain ⟨g, rfl, hgl, hcap⟩ := h.isAt 0 hs0
  have HS := hide h
  clear h
  have HN1 := hide (own_new1 w w.heap.size 3 1 [.int .i64 0] rfl (Nat.le_refl _))
  go_enter Tryd.func48, Tryd.ntmps48
  go_wp2
  go_loopg [4, 5] sts.length (fun gk rv iv wr => ∃ (l : List Nat) (i : Nat) (a' : Option Addr) (c' : Nat), i + gk = sts.length ∧ i ≤ l.length ∧ l.length ≤ sts.length ∧ rv = .slice a' l.length c' ∧ iv = .int .i64 (i : Int) ∧ Hid (Below w.heap.size w wr) ∧ Hid (IntsC wr w.heap.size (.slice a' l.length c') l) ∧ Hid (Bfs sts i l))
  case atStart => exact ⟨[0], 0, _, _, by omega, by simp, by simp; omega, rfl, rfl, (Below.refl _ _).alloc (Nat.le_refl _) _, HN1.out, Bfs.start hs0⟩
  case round =>
    clear HN1
    obtain ⟨l, i, a', c', hk, hil, hls, rfl, rfl, HB, HI, HF⟩ := hrel
    have E1 := hide hk
    clear hk
    by_cases hlt : i < l.length
    · obtain ⟨x, hx⟩ : ∃ x, l[i] = x := ⟨_, rfl⟩
      have hxl : x < sts.length := by rw [← hx]; exact HF.out.lt _ (List.getElem_mem hlt)
      obtain ⟨gi, rfl, hgi1, hgi2, hgi3⟩ := HI.out.isAt i hlt
      have d0 := HI.out.at4 i hlt
      rw [hx] at d0
      obtain ⟨b, n', c1, c0, c4, c5, c3, hr⟩ := HS.out.at4 x hxl
      obtain ⟨rfl, hrm⟩ := hr.len
      have HX := hide hx
      have HRw := hide hr
      replace c0 := (HB.out.cell (p := ⟨g, x * 4, none⟩) hgl).trans c0
      replace c4 := (HB.out.cell (p := ⟨g, x * 4 + 1, none⟩) hgl).trans c4
      replace c5 := (HB.out.cell (p := ⟨g, x * 4 + 2, none⟩) hgl).trans c5
      replace c3 := (HB.out.cell (p := ⟨g, x * 4 + 3, none⟩) hgl).trans c3
      clear hr hx
      go_wp2
      go_loopg [4, 28] sts[x].rules.length (fun g2 rv j wi => ∃ (l2 : List Nat) (q : Nat) (a2 : Option Addr) (c2 : Nat), q + g2 = sts[x].rules.length ∧ i < l2.length ∧ l2.length ≤ sts.length ∧ rv = .slice a2 l2.length c2 ∧ j = .int .i64 (q : Int) ∧ Hid (Below w.heap.size w wi) ∧ Hid (IntsC wi w.heap.size (.slice a2 l2.length c2) l2) ∧ Hid (Bfs sts i l2) ∧ Hid (l2[i]? = some x) ∧ Hid (∀ r ∈ sts[x].rules.take q, ∀ j : Nat, Pm.whereI sts r.goal = (j : Int) → j ∈ l2))
      case atStart => exact ⟨l, 0, _, _, by omega, hlt, hls, rfl, rfl, HB, HI, HF, by rw [← HX.out]; exact List.getElem?_eq_getElem hlt, by simp [Hid]⟩
      case round =>
        clear d0 c0 c3 c4 c5 HI HB
        obtain ⟨l2, q, a2, c2, hq, hil2, hls2, rfl, rfl, HB, HI, HF2, HX2, HA⟩ := hrel
        have HRl := hide (HRw.out.below HB.out)
        have E2 := hide hq
        clear hq
        by_cases hql : q < sts[x].rules.length
        · obtain ⟨g2, rfl, hg2, hcap2⟩ := HRl.out.isAt q hql
          obtain ⟨b1, n1, d1, b2, n2, d2, e0, e1, e2, e3, e4, e5, e6, -, -⟩ := HRl.out.at4 q hql
          have hz := HB.out.size
          have HBn := hide ((Below.refl wr.heap.size wr).alloc (Nat.le_refl _) (.cells #[.int .i64 (sts[x].rules[q].at_ : Int), .int .i64 (sts[x].rules[q].eventAt : Int), .string sts[x].rules[q].event, .slice b1 n1 d1, .int .i64 (sts[x].rules[q].to_ : Int), .string sts[x].rules[q].goal, .slice b2 n2 d2] 128))
          have HBB := hide (HB.out.trans (HBn.out.mono hz))
          go_wp2_with fail
          refine (find_any _ base _ _ _ sts sts[x].rules[q].goal (HS.out.below HBB.out)).mono ?_
          rintro e w2 ⟨rfl, hb2⟩
          have HBm := hide (HBn.out.trans (hb2.mono (by simp)))
          have HB3 := hide (HB.out.trans (HBm.out.mono hz))
          have HR3 := hide (HRl.out.below HBm.out)
          have HI3 := hide (HI.out.below HBm.out)
          clear hb2 e0 e1 e2 e3 e4 e5 e6
          have hz2 := HB3.out.size
          rcases Pm.where_bd sts sts[x].rules[q].goal with hw | ⟨hw1, hw2⟩
          · have hd : decide (0 ≤ Pm.whereI sts sts[x].rules[q].goal) = false := by rw [hw]; rfl
            have HA3 := hide (show ∀ r ∈ sts[x].rules.take (q + 1), ∀ j : Nat, Pm.whereI sts r.goal = (j : Int) → j ∈ l2 by
              intro r hr j hj
              rw [List.take_succ_eq_append_getElem hql] at hr
              rcases List.mem_append.1 hr with hr | hr
              · exact HA.out r hr j hj
              · simp at hr; subst hr; rw [hw] at hj; omega)
            rw [hd]
            clear hd hw
            go_wp2
            go_roundg (sts[x].rules.length - (q + 1))
            case measure => have := E2.out; omega
            case rel => exact ⟨l2, q + 1, _, _, by omega, hil2, hls2, rfl, by go_num, HB3, HI3, HF2, HX2, HA3⟩
          · have hd : decide (0 ≤ Pm.whereI sts sts[x].rules[q].goal) = true := decide_eq_true hw1
            obtain ⟨j, hj⟩ : ∃ j : Nat, Pm.whereI sts sts[x].rules[q].goal = (j : Int) := ⟨(Pm.whereI sts sts[x].rules[q].goal).toNat, by omega⟩
            rw [hj] at hw2
            have hjl : j < sts.length := by omega
            rw [hd, hj]
            have HJ := hide hj
            clear hd hw1 hw2 hj
            have HLL := hide (show ∀ y ∈ l2, y ≤ 9223372036854775807 from fun y hy => by have := HF2.out.lt y hy; omega)
            go_wp2_with fail
            refine (containsI_any _ w.heap.size _ _ _ l2 j HLL.out HI3.out).mono ?_
            rintro e w3 ⟨rfl, hb3⟩
            have HB4 := hide (HB3.out.trans (hb3.mono hz2))
            have HR4 := hide (HR3.out.below hb3)
            have HI4 := hide (HI3.out.below hb3)
            have hz3 := HB4.out.size
            clear hb3
            cases hct : l2.contains j
            · have hnm : j ∉ l2 := fun e => by rw [List.contains_iff_mem.2 e] at hct; cases hct
              have hedge : Pm.Edge sts x j := ⟨hxl, _, List.getElem_mem hql, HJ.out⟩
              have hxm : x ∈ l2 := List.mem_of_getElem? HX2.out
              have HF3 := hide (HF2.out.add hnm hjl (.step (HF2.out.re x hxm) hedge) (by omega))
              have hll := HF3.out.len
              rw [List.length_append] at hll
              simp only [List.length_cons, List.length_nil] at hll
              have HA3 := hide (show ∀ r ∈ sts[x].rules.take (q + 1), ∀ j' : Nat, Pm.whereI sts r.goal = (j' : Int) → j' ∈ l2 ++ [j] by
                intro r hr j' hj'
                rw [List.take_succ_eq_append_getElem hql] at hr
                rcases List.mem_append.1 hr with hr | hr
                · exact List.mem_append.2 (.inl (HA.out r hr j' hj'))
                · simp at hr; subst hr; rw [HJ.out] at hj'; exact List.mem_append.2 (.inr (by simp; omega)))
              have HX3 := hide (show (l2 ++ [j])[i]? = some x by rw [List.getElem?_append_left hil2]; exact HX2.out)
              have HI5 := hide (ownsRow_alloc HI4.out (.cells #[.int .i64 (j : Int)] 3))
              have hgu : g2 < w3.heap.size := by obtain ⟨_, h1, h2, _⟩ := HR4.out.isAt q hql; simp at h1; omega
              clear hct hnm hedge hxm
              go_wp2_with (at_builtin; go_must (refine wpList_append_own _ rfl _ _ 145 rfl w.heap.size 3 iI (.int .i64 0) 1 8 Tryd.underlyingInts hI hI0 hI1 hI2 rfl (by decide) _ _ _ rfl HI5.out ⟨w3.heap.size, 0, none⟩ 1 1 [.int .i64 (j : Int)] rfl rfl (cell_one_new' _ _ _ _ rfl) one1I (by unfold maxLen; omega) (by omega) (by simp; omega) ?_; intro v5 w5 ho5 hg5 _; obtain ⟨a5, l5, c5, rfl⟩ := own_slice ho5; have HO5 := hide ho5; have HG5 := hide hg5; clear ho5 hg5))
              go_roundg (sts[x].rules.length - (q + 1))
              case measure => have := E2.out; omega
              case rel =>
                have hrow : ∀ k, (Value.slice a2 l2.length c2).ownBlock = some k → w.heap.size ≤ k := fun k e => (World.ownsRow.lt HI5.out k e).1
                have hl5 : l5 = (l2 ++ [j]).length := by have := (own_len HO5.out).1; rw [List.length_append]; simpa using this
                subst hl5
                refine ⟨l2 ++ [j], q + 1, _, _, by omega, by simp; omega, by simp; omega, rfl, by go_num, (HB4.out.alloc hz3 _).grown HG5.out (by simp; omega) hrow, ?_, HF3, HX3, HA3⟩
                show IntsC _ _ _ _
                unfold IntsC
                have h6 := HO5.out
                rw [List.map_append, List.length_append] at *
                exact h6
            · have HM := hide (List.contains_iff_mem.1 hct)
              have HA3 := hide (show ∀ r ∈ sts[x].rules.take (q + 1), ∀ j' : Nat, Pm.whereI sts r.goal = (j' : Int) → j' ∈ l2 by
                intro r hr j' hj'
                rw [List.take_succ_eq_append_getElem hql] at hr
                rcases List.mem_append.1 hr with hr | hr
                · exact HA.out r hr j' hj'
                · simp at hr; subst hr; rw [HJ.out] at hj'; have : j' = j := by omega
                  subst this; exact HM.out)
              clear hct
              go_wp2
              go_roundg (sts[x].rules.length - (q + 1))
              case measure => have := E2.out; omega
              case rel => exact ⟨l2, q + 1, _, _, by omega, hil2, hls2, rfl, by go_num, HB4, HI4, HF2, HX2, HA3⟩
        · have HN := hide (HF2.out.next hil2 (by have := HX2.out; rw [List.getElem?_eq_getElem hil2] at this; simpa using this) hxl (by have := HA.out; rw [List.take_of_length_le (by omega)] at this; exact this))
          go_wp2
          go_roundg (sts.length - (i + 1))
          case measure => have := E1.out; omega
          case rel => exact ⟨l2, i + 1, _, _, by omega, by omega, hls2, rfl, by go_num, HB, HI, HN⟩
    · have hie : i = l.length := by omega
      have HD := hide (fun y => (by have h1 := HF.out; rw [hie] at h1; exact h1.done y : Pm.Reach sts y ↔ y ∈ l))
      clear hie
      go_wp2
      go_loopg [54] sts.length (fun g3 j wi => ∃ k : Nat, k + g3 = sts.length ∧ j = .int .i64 (k : Int) ∧ Hid (Below w.heap.size w wi) ∧ Hid (IntsC wi w.heap.size (.slice a' l.length c') l) ∧ Hid (Pm.seekAt (Pm.lostF sts) sts k = Pm.lostO sts))
      case atStart => exact ⟨0, by omega, rfl, HB, HI, rfl⟩
      case round =>
        clear HB HI
        obtain ⟨k, hk, rfl, HB, HI, HR⟩ := hrel
        have E3 := hide hk
        clear hk
        by_cases hkl : k < sts.length
        · obtain ⟨b, n', c1, c0, c4, c2, c3, -⟩ := (HS.out.below HB.out).at4 k hkl
          have hz := HB.out.size
          have HBn := hide ((Below.refl wr.heap.size wr).alloc (Nat.le_refl _) (.cells #[.int .i64 (sts[k].at_ : Int), .int .i64 (sts[k].nameAt : Int), .string sts[k].name, .slice b n' c1] 124))
          have HLL := hide (show ∀ y ∈ l, y ≤ 9223372036854775807 from fun y hy => by have := HF.out.lt y hy; omega)
          have HIn := hide (HI.out.below HBn.out)
          go_wp2_with fail
          refine (containsI_any _ w.heap.size _ _ _ l k HLL.out HIn.out).mono ?_
          rintro e w3 ⟨rfl, hb3⟩
          have HBm := hide (HBn.out.trans (hb3.mono (by simp)))
          have HB4 := hide (HB.out.trans (HBm.out.mono hz))
          have HI4 := hide (HI.out.below HBm.out)
          obtain ⟨y0, y1, y2, y3, -⟩ := blk4 ((hb3.block wr.heap.size (by simp)).trans (heap_alloc_new wr (.cells #[.int .i64 (sts[k].at_ : Int), .int .i64 (sts[k].nameAt : Int), .string sts[k].name, .slice b n' c1] 124)))
          clear hb3 c0 c4 c2 c3
          cases hct : l.contains k
          · have HN := hide (Pm.seekAt_yes (f := Pm.lostF sts) hkl (by unfold Pm.lostF; rw [if_neg (fun hr => by have := (HD.out k).1 hr; rw [List.contains_iff_mem.2 this] at hct; cases hct)]))
            clear hct
            go_wp2
            go_ret2
            refine ⟨?_, HB4.out⟩
            rw [← HR.out, HN.out]; rfl
          · have HN := hide (Pm.seekAt_no (f := Pm.lostF sts) hkl (by unfold Pm.lostF; rw [if_pos ((HD.out k).2 (List.contains_iff_mem.1 hct))]))
            clear hct
            go_wp2
            go_roundg (sts.length - (k + 1))
            case measure => have := E3.out; omega
            case rel => exact ⟨k + 1, by omega, by go_num, HB4, HI4, HN.out.symm.trans HR.out⟩
        · have HN := hide (Pm.seekAt_end (Pm.lostF sts) sts k (by omega))
          go_wp2
          go_ret2
          refine ⟨?_, HB.out⟩
          rw [← HR.out, HN.out]; rfl
end Go.Proofs.YtcijookbgliglaaDoor
