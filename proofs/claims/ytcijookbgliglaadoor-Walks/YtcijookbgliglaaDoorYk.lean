import Derived.Test.YtcijookbgliglaaDoorYj
/- The walks over the program's machine and begin. -/
namespace Go.Proofs.YtcijookbgliglaaDoor
open Go.RowKit

def stC (ys : List (Pm.St × Value)) : List Value := ys.flatMap fun y => [.int .i64 (y.1.at_ : Int), .int .i64 (y.1.nameAt : Int), .string y.1.name, y.2]
def StatesC (w : World) (base : Nat) (v : Value) (sts : List Pm.St) : Prop :=
  ∃ ys : List (Pm.St × Value), ys.map (·.1) = sts ∧ w.ownsRow base 124 4 v ys.length (stC ys) ∧ ∀ y ∈ ys, RulesC w base y.2 y.1.rules
theorem stC_snoc (ys : List (Pm.St × Value)) (y : Pm.St × Value) : stC (ys ++ [y]) = stC ys ++ [.int .i64 (y.1.at_ : Int), .int .i64 (y.1.nameAt : Int), .string y.1.name, y.2] := by simp [stC]
theorem StatesC.same {w w' : World} {base : Nat} {v : Value} {sts : List Pm.St} (h : StatesC w base v sts) (hb : ∀ k, base ≤ k → k < w.heap.size → w'.heap[k]? = w.heap[k]?) : StatesC w' base v sts := by
  obtain ⟨ys, h1, h2, h3⟩ := h
  exact ⟨ys, h1, ownsRow_same h2 hb, fun y hy => (h3 y hy).same hb⟩
theorem StatesC.lower {w : World} {base base' : Nat} {v : Value} {sts : List Pm.St} (h : StatesC w base v sts) (hb : base' ≤ base) : StatesC w base' v sts := by
  obtain ⟨ys, h1, h2, h3⟩ := h
  exact ⟨ys, h1, ownsRow_base h2 hb, fun y hy => (h3 y hy).lower hb⟩
theorem StatesC.slice {w : World} {base : Nat} {v : Value} {sts : List Pm.St} (h : StatesC w base v sts) : ∃ a n c, v = .slice a n c := by
  obtain ⟨ys, h1, h2, h3⟩ := h
  exact own_slice h2
theorem dead_state1 {s : ByteArray} {p : Pm.Pn} {x : Nat} (h : Pm.dead p = some x) : Pm.dead (Pm.state1 s p).2 = some x := by
  have e1 : Pm.dead (Pm.need s p Pm.wState).2 = some x := Pm.dead_need h _
  have e2 : Pm.dead (Pm.stateA s p) = some x := Pm.dead_word e1
  have e3 : Pm.dead (Pm.stateB s p) = some x := Pm.dead_need e2 _
  have e4 : Pm.dead (Pm.stateC s p).2 = some x := dead_rulesL e3
  exact Pm.dead_need e4 _
theorem dead_statesL {s : ByteArray} {x : Nat} : ∀ (n : Nat) (b : Bool) (p : Pm.Pn), Pm.dead p = some x → Pm.dead (Pm.statesL s n b p).2 = some x
  | _, false, p, h => by unfold Pm.statesL; exact h
  | 0, true, p, h => by unfold Pm.statesL; exact h
  | n + 1, true, p, h => by unfold Pm.statesL; exact dead_statesL n _ _ (dead_state1 h)
theorem again_live {s : ByteArray} {p : Pm.Pn} (h : Pm.Live s p) : Pm.again p = !(p.g.t.toList.isEmpty) := by
  rw [h.2.isEnd]
  unfold Pm.again
  rw [h.1]
  simp [bne]

theorem Tryd.underlyingStatesC : Tryd.prog.underlying 75 = some (.slice 124) := by kernel_rfl
theorem Tryd.infoStateC : (Tryd.prog.info? 124).map (fun i => (i.zero, i.size, i.bytes)) = some (some (.agg #[.int .i64 0, .int .i64 0, .string ByteArray.empty, .slice none 0 0]), 4, 56) := by kernel_rfl
theorem cell_four_new (w : World) (a b c d : Value) (t : TypeId) (k : Nat) (hk : k = w.heap.size) : ∀ j u, [a, b, c, d][j]? = some u → (w.alloc (.cells #[a, b, c, d] t)).cell? ((⟨k, 0, none⟩ : Addr).add j) = some u := by
  subst hk
  intro j u hj
  match j, hj with
  | 0, hj => simp at hj; subst hj; simp [Addr.add]
  | 1, hj => simp at hj; subst hj; simp [Addr.add]
  | 2, hj => simp at hj; subst hj; simp [Addr.add]
  | 3, hj => simp at hj; subst hj; simp [Addr.add]
  | j + 4, hj => simp at hj
theorem one4 {t : ByteArray} {a : Option Addr} {n c : Nat} {x y : Int} : ∀ u ∈ [Value.int .i64 x, .int .i64 y, .string t, .slice a n c], u.oneCell' = true := by
  intro u hu; simp at hu; rcases hu with rfl | rfl | rfl | rfl <;> rfl

set_option maxRecDepth 100000 in
set_option maxHeartbeats 2000000 in
theorem machine_rd (w : World) (b : Nat) (s : ByteArray) (p : Pm.Pn) {sts : List Pm.St} {q : Pm.Pn} (hn : Pm.statesL s (s.size + 1) true p = (sts, q)) (hs : s.size ≤ 300) (hL : Pm.Live s p) (hp : RdAt w b s p.g) :
    Calls Tryd.prog 42 #[.pointer (some ⟨b, 0, none⟩)] w fun e w' => Kept b w w' ∧ ((Pm.Live s q ∧ ∃ v, e = .returned v ∧ StatesC w' w.heap.size v sts) ∨ ∃ x, Pm.dead q = some x ∧ Thrown s e x) := by
  obtain ⟨iT, hT, hT0, hT1, hT2⟩ := info_parts Tryd.infoStateC
  have hlt := hp.lt
  obtain ⟨⟨st, p1⟩, h1⟩ : ∃ n, Pm.state1 s p = n := ⟨_, rfl⟩
  obtain ⟨t0, ht1, ht2⟩ := Pm.statesL_step hn h1 rfl
  have hmo : Pm.again p1 = true → p.g.to_ < p1.g.to_ := fun e => by have := Pm.state_more s p hL.ok; rw [h1] at this; exact this e
  have d1 : ∀ x, Pm.dead p1 = some x → Pm.dead q = some x := fun x h => by have h := dead_statesL (s := s) s.size (Pm.again p1) p1 h; rw [ht2] at h; exact h
  have N1 := hide h1
  have T1 := hide ht1
  have T2 := hide ht2
  have D1 := hide d1
  have HP := hide hp
  clear hn h1 ht1 ht2 d1 hp
  go_enter Tryd.func42, Tryd.ntmps42
  go_wp2_with fail
  refine (state_rd _ b s p N1.out hs hL HP.out).mono ?_
  rintro e w1 ⟨hk1, (⟨hL1, ⟨a1, n1, c1, rfl, hR1⟩, hr1⟩ | ⟨x, hd, hth⟩)⟩
  case inr =>
    obtain ⟨pv, rfl⟩ := hth.shape
    have K1 := hide hk1
    have HD := hide (D1.out x hd)
    have HH := hide hth
    clear hk1 hd hth
    go_wp2_with fail
    exact ⟨rfl, K1.out, Or.inr ⟨x, HD.out, HH.out⟩⟩
  have K1 := hide (hk1.alloc (.cells #[.int .i64 (st.at_ : Int), .int .i64 (st.nameAt : Int), .string st.name, .slice a1 n1 c1] 124))
  have R1 := hide (hr1.alloc (.cells #[.int .i64 (st.at_ : Int), .int .i64 (st.nameAt : Int), .string st.name, .slice a1 n1 c1] 124))
  have S1 := hide (show StatesC (w1.alloc (.cells #[.int .i64 (st.at_ : Int), .int .i64 (st.nameAt : Int), .string st.name, .slice a1 n1 c1] 124)) w.heap.size (.slice (some ⟨w1.heap.size, 0, none⟩) 1 1) [st] from
    ⟨[(st, .slice a1 n1 c1)], rfl, own_new1 w1 w.heap.size 124 4 [.int .i64 (st.at_ : Int), .int .i64 (st.nameAt : Int), .string st.name, .slice a1 n1 c1] rfl hk1.size, fun y hy => by simp at hy; subst hy; exact hR1.same (fun _ _ h2 => Below.heap_alloc _ _ _ h2)⟩)
  have HL1 := hide hL1
  clear hk1 hr1 hR1 hL1
  go_wp2_with fail
  go_loopg [3] s.size (fun k lv wr => ∃ (p' : Pm.Pn) (acc rest : List Pm.St) (a : Option Addr) (l c : Nat), lv = .slice a l c ∧ Hid (StatesC wr w.heap.size (.slice a l c) acc) ∧ Hid (Pm.Live s p') ∧ Hid (RdAt wr b s p'.g) ∧ Hid (Kept b w wr) ∧ Hid (Pm.statesL s k (Pm.again p') p' = (rest, q)) ∧ Hid (acc ++ rest = sts) ∧ acc.length + k ≤ 301 ∧ Hid (Pm.again p' = true → s.size < k + p'.g.to_))
  case atStart =>
    refine ⟨p1, [st], t0, _, _, _, rfl, S1, HL1, R1, K1, T2, T1.out.symm, by simp; omega, fun e => ?_⟩
    have := hmo e; omega
  case round =>
    clear S1 HL1 R1 K1
    obtain ⟨p', acc, rest, a, l, c, rfl, HS, HL, HR, HK, HX, HA, hlen, hfu⟩ := hrel
    obtain ⟨c0, c1', c2, c3, cf⟩ := HR.out.cells
    have hag := again_live HL.out
    cases hem : p'.g.t.toList.isEmpty
    · rw [hem] at hag
      have hfu := hfu.out hag
      have hle : p'.g.to_ ≤ s.size := HL.out.ok
      obtain ⟨n, rfl⟩ : ∃ n, gk = n + 1 := ⟨gk - 1, by omega⟩
      obtain ⟨⟨st2, p2⟩, h2⟩ : ∃ n, Pm.state1 s p' = n := ⟨_, rfl⟩
      have hx := HX.out
      rw [hag] at hx
      obtain ⟨t2, ht1, ht2⟩ := Pm.statesL_step hx h2 rfl
      have hmo2 : Pm.again p2 = true → p'.g.to_ < p2.g.to_ := fun e => by have := Pm.state_more s p' HL.out.ok; rw [h2] at this; exact this e
      have d2 : ∀ x, Pm.dead p2 = some x → Pm.dead q = some x := fun x h => by have h := dead_statesL (s := s) n (Pm.again p2) p2 h; rw [ht2] at h; exact h
      have N2 := hide h2
      have U1 := hide ht1
      have U2 := hide ht2
      have D2 := hide d2
      have HM2 := hide hmo2
      clear h2 ht1 ht2 d2 hx hag hmo2
      go_wp2_with fail
      refine (isEnd_any _ _ _).mono ?_
      rintro e w2 ⟨rfl, rfl⟩
      rw [hem]
      clear hem
      go_wp2_with fail
      refine (state_rd _ b s p' N2.out hs HL.out (HR.out.alloc _)).mono ?_
      rintro e w3 ⟨hk3, (⟨hL3, ⟨a3, n3, c3', rfl, hR3⟩, hr3⟩ | ⟨x, hd, hth⟩)⟩
      · have hk3' : Kept b wr w3 := ((Kept.refl _ _).alloc _).trans hk3
        obtain ⟨ys, hy1, hy2, hy3⟩ := HS.out.same (w' := w3) (fun k h1 h2 => hk3'.block k h2 (by omega))
        have hz3 : wr.heap.size ≤ w3.heap.size := hk3'.size
        have hzw : w.heap.size ≤ wr.heap.size := HK.out.size
        have hyl : ys.length = acc.length := by rw [← hy1]; simp
        have hyl2 : ys.length + (n + 1) ≤ 301 := by omega
        have Y1 := hide hy1
        have Y2 := hide (ownsRow_alloc hy2 (.cells #[.int .i64 (st2.at_ : Int), .int .i64 (st2.nameAt : Int), .string st2.name, .slice a3 n3 c3'] 124))
        have Y3 := hide (show ∀ y ∈ ys, RulesC (w3.alloc (.cells #[.int .i64 (st2.at_ : Int), .int .i64 (st2.nameAt : Int), .string st2.name, .slice a3 n3 c3'] 124)) w.heap.size y.2 y.1.rules from fun y hy => (hy3 y hy).same (fun _ _ h2 => Below.heap_alloc _ _ _ h2))
        have R3 := hide ((hR3.same (w' := w3.alloc (.cells #[.int .i64 (st2.at_ : Int), .int .i64 (st2.nameAt : Int), .string st2.name, .slice a3 n3 c3'] 124)) (fun _ _ h2 => Below.heap_alloc _ _ _ h2)).lower (base' := w.heap.size) (by simp; omega))
        have K3 := hide ((HK.out.trans hk3').alloc (.cells #[.int .i64 (st2.at_ : Int), .int .i64 (st2.nameAt : Int), .string st2.name, .slice a3 n3 c3'] 124))
        have Q3 := hide (hr3.alloc (.cells #[.int .i64 (st2.at_ : Int), .int .i64 (st2.nameAt : Int), .string st2.name, .slice a3 n3 c3'] 124))
        have HL3 := hide hL3
        clear hk3 hk3' hy1 hy2 hy3 hyl hR3 hr3 hL3
        go_wp2_with (at_builtin; go_must (refine wpList_append_own _ rfl _ _ 75 rfl w.heap.size 124 iT (.agg #[.int .i64 0, .int .i64 0, .string ByteArray.empty, .slice none 0 0]) 4 56 Tryd.underlyingStatesC hT hT0 hT1 hT2 rfl (by decide) _ _ _ rfl Y2.out ⟨w3.heap.size, 0, none⟩ 1 1 [.int .i64 (st2.at_ : Int), .int .i64 (st2.nameAt : Int), .string st2.name, .slice a3 n3 c3'] rfl rfl (cell_four_new _ _ _ _ _ _ _ rfl) one4 (by unfold maxLen; omega) (by omega) (by simp; omega) ?_; intro v4 w4 ho4 hg4 _; obtain ⟨a4, l4, c4, rfl⟩ := own_slice ho4; have HO4 := hide ho4; have HG4 := hide hg4; clear ho4 hg4))
        go_roundg n
        case measure => omega
        case rel =>
          have hrow : ∀ k, (Value.slice a l c).ownBlock = some k → w.heap.size ≤ k := fun k e => (World.ownsRow.lt Y2.out k e).1
          refine ⟨p2, acc ++ [st2], t2, _, _, _, rfl, ?_, HL3, ?_, K3.out.grown HG4.out hrow, U2, ?_, ?_, ?_⟩
          · refine ⟨ys ++ [(st2, .slice a3 n3 c3')], by simp [Y1.out], ?_, ?_⟩
            · rw [stC_snoc, List.length_append]; exact HO4.out
            · intro y hy
              rcases List.mem_append.1 hy with hy | hy
              · exact (Y3.out y hy).grown Y2.out HG4.out
              · simp at hy; subst hy
                exact R3.out.grown Y2.out HG4.out
          · exact Q3.out.same (HG4.out.block b Q3.out.lt (fun e => by have := hrow b e.symm; omega))
          · show _ = _
            have h := HA.out
            rw [U1.out] at h
            rw [List.append_assoc]; exact h
          · simp; omega
          · intro e; have := HM2.out e; omega
      · obtain ⟨pv, rfl⟩ := hth.shape
        have K3 := hide ((HK.out.alloc _).trans hk3)
        have HD := hide (D2.out x hd)
        have HH := hide hth
        clear hk3 hd hth
        go_wp2_with fail
        exact ⟨rfl, K3.out, Or.inr ⟨x, HD.out, HH.out⟩⟩
    · rw [hem] at hag
      have hx := HX.out
      rw [hag] at hx
      obtain ⟨rfl, rfl⟩ := Pm.statesL_stop hx
      clear hx hag
      go_wp2_with fail
      refine (isEnd_any _ _ _).mono ?_
      rintro e w2 ⟨rfl, rfl⟩
      rw [hem]
      clear hem
      go_wp2_with fail
      go_ret
      refine ⟨HK.out.alloc _, Or.inl ⟨HL.out, _, rfl, ?_⟩⟩
      have h := HA.out
      simp at h
      rw [← h]
      exact HS.out.same (fun _ _ h2 => Below.heap_alloc _ _ _ h2)
end Go.Proofs.YtcijookbgliglaaDoor
