import Derived.Test.YtcijookbgliglaaDoorYf
/- The walks over the program's several. -/
namespace Go.Proofs.YtcijookbgliglaaDoor
open Go.RowKit

def gdC (gs : List Pm.Gd) : List Value := gs.flatMap fun g => [.int .i64 (g.at_ : Int), .string g.word, .bool g.not]
def acC (gs : List Pm.Ac) : List Value := gs.flatMap fun g => [.int .i64 (g.at_ : Int), .string g.word]
theorem gdC_snoc (gs : List Pm.Gd) (g : Pm.Gd) : gdC (gs ++ [g]) = gdC gs ++ [.int .i64 (g.at_ : Int), .string g.word, .bool g.not] := by simp [gdC]
theorem acC_snoc (gs : List Pm.Ac) (g : Pm.Ac) : acC (gs ++ [g]) = acC gs ++ [.int .i64 (g.at_ : Int), .string g.word] := by simp [acC]
def GuardsC (w : World) (base : Nat) (v : Value) (gs : List Pm.Gd) : Prop := w.ownsRow base 157 3 v gs.length (gdC gs)
def ActsC (w : World) (base : Nat) (v : Value) (gs : List Pm.Ac) : Prop := w.ownsRow base 121 2 v gs.length (acC gs)

theorem Tryd.underlyingGuardsC : Tryd.prog.underlying 125 = some (.slice 157) := by kernel_rfl
theorem Tryd.underlyingSignsC : Tryd.prog.underlying 126 = some (.slice 121) := by kernel_rfl
theorem Tryd.infoGuardC : (Tryd.prog.info? 157).map (fun i => (i.zero, i.size, i.bytes)) = some (some (.agg #[.int .i64 0, .string ByteArray.empty, .bool false]), 3, 32) := by kernel_rfl
theorem Tryd.infoSignC : (Tryd.prog.info? 121).map (fun i => (i.zero, i.size, i.bytes)) = some (some (.agg #[.int .i64 0, .string ByteArray.empty]), 2, 24) := by kernel_rfl
theorem one3C {t : ByteArray} {n : Bool} {a : Int} : ∀ u ∈ [Value.int .i64 a, .string t, .bool n], u.oneCell' = true := by
  intro u hu; simp at hu; rcases hu with rfl | rfl | rfl <;> rfl
theorem one2C {t : ByteArray} {a : Int} : ∀ u ∈ [Value.int .i64 a, .string t], u.oneCell' = true := by
  intro u hu; simp at hu; rcases hu with rfl | rfl <;> rfl
/-- A row of one new element. -/
theorem own_new1 (w : World) (base : Nat) (e : TypeId) (size : Nat) (cs : List Value) (hl : cs.length = size) (hb : base ≤ w.heap.size) :
    (w.alloc (.cells cs.toArray e)).ownsRow base e size (.slice (some ⟨w.heap.size, 0, none⟩) 1 1) 1 cs := by
  refine ⟨by omega, .inr ⟨w.heap.size, 1, cs.toArray, rfl, hb, heap_alloc_new w _, Nat.le_refl _, by unfold maxLen; omega, by simp [hl], ?_⟩⟩
  rw [List.take_of_length_le (by simp [hl])]

set_option maxRecDepth 100000 in
set_option maxHeartbeats 2000000 in
theorem severalG_rd (w : World) (b : Nat) (s : ByteArray) (p : Pm.Pn) {gs : List Pm.Gd} {q : Pm.Pn} (hn : Pm.guardL s (s.size + 1) true p = (gs, q)) (hs : s.size ≤ 300) (hL : Pm.Live s p) (hp : RdAt w b s p.g) :
    Calls Tryd.prog 85 #[.pointer (some ⟨b, 0, none⟩), .func (Fn.func 86) #[.pointer (some ⟨b, 0, none⟩)] #[]] w fun e w' => Go1 b s w q (fun e w' => ∃ v, e = .returned v ∧ GuardsC w' w.heap.size v gs) e w' := by
  have hlt := hp.lt
  obtain ⟨iG, hG, hG0, hG1, hG2⟩ := info_parts Tryd.infoGuardC
  obtain ⟨⟨nt, r1⟩, hm1⟩ : ∃ n, Pm.skip s p Pm.wNot = n := ⟨_, rfl⟩
  obtain ⟨⟨g, r2⟩, hm2⟩ : ∃ n, Pm.word s r1 = n := ⟨_, rfl⟩
  obtain ⟨⟨m, r3⟩, hm3⟩ : ∃ n, Pm.skip s r2 [44] = n := ⟨_, rfl⟩
  have hg1 : Pm.guard1 s p = (⟨g.t, nt, g.at_⟩, m, r3) := by unfold Pm.guard1; rw [hm1, hm2, hm3]
  have hmo : m = true → p.g.to_ < r3.g.to_ := fun e => by have := Pm.guard1_more s p hL.ok; rw [hg1] at this; exact this e
  have L3 := hide (Pm.guardL_step hn hg1)
  have HDD := hide (fun x => (Pm.guardL_dead (x := x) hn hm1 hm2 : Pm.dead r2 = some x → _))
  have N3 := hide hm3
  have N1 := hide hm1
  have N2 := hide hm2
  have HP := hide hp
  clear hn hm3 hg1 hp hm1 hm2
  go_enter Tryd.func85, Tryd.ntmps85
  go_wp2_with fail
  refine (guard_rd _ b s p N1.out N2.out hs hL HP.out).mono ?_
  rintro e w1 ⟨hk1, (⟨hL1, rfl, hr1⟩ | ⟨x, hd, hth⟩)⟩
  · obtain ⟨t0, ht1, ht2⟩ := L3.out
    have K1 := hide hk1
    have R1 := hide hr1
    have hz1 := hk1.size
    have G1 := hide (own_new1 w1 w.heap.size 157 3 [.int .i64 (g.at_ : Int), .string g.t, .bool nt] rfl hz1)
    have T1 := hide ht1
    have T2 := hide ht2
    clear hk1 hr1 ht1 ht2
    go_wp2_with fail
    go_loopg [5] s.size (fun k lv wr => ∃ (p' : Pm.Pn) (acc : List Pm.Gd) (a : Option Addr) (l c : Nat) (m' : Bool) (r : Pm.Pn) (rest : List Pm.Gd), lv = .slice a l c ∧ Hid (GuardsC wr w.heap.size (.slice a l c) acc) ∧ Pm.Live s p' ∧ Hid (RdAt wr b s p'.g) ∧ Hid (Kept b w wr) ∧ Hid (Pm.skip s p' [44] = (m', r)) ∧ Hid (Pm.guardL s k m' r = (rest, q)) ∧ Hid (acc ++ rest = gs) ∧ acc.length + k ≤ 301 ∧ (m' = true → s.size < k + r.g.to_))
    case atStart =>
      refine ⟨r2, [⟨g.t, nt, g.at_⟩], _, _, _, m, r3, t0, rfl, G1.out, hL1, R1.out.alloc _, K1.out.alloc _, N3.out, T2.out, T1.out.symm, by simp; omega, fun e => ?_⟩
      have := hmo e; omega
    case round =>
      clear G1 R1 K1
      obtain ⟨p', acc, a, l, c, m', r, rest, rfl, HG, hLp, HR, HK, HS, HL, HA, hlen, hfu⟩ := hrel
      go_wp2_with fail
      refine (skip_rd _ b s p' ⟨#[44]⟩ litComma (by decide) HS.out hs hLp HR.out).mono ?_
      rintro e w2 ⟨hk2, (⟨hL2, rfl, hr2⟩ | ⟨x, hd, hth⟩)⟩
      · have HK2 := hide (HK.out.trans hk2)
        have HR2 := hide hr2
        have HG2 := hide (ownsRow_kept HG.out hk2 hlt)
        clear hk2 hr2
        cases m'
        · obtain ⟨rfl, rfl⟩ := Pm.guardL_stop HL.out
          go_wp2_with fail
          go_ret
          refine ⟨HK2.out, Or.inl ⟨hL2, ⟨_, rfl, ?_⟩, HR2.out⟩⟩
          have h := HA.out
          simp at h
          rw [← h]; exact HG2.out
        · have hfu := hfu rfl
          have hle2 : r.g.to_ ≤ s.size := hL2.ok
          obtain ⟨n, rfl⟩ : ∃ n, gk = n + 1 := ⟨gk - 1, by omega⟩
          obtain ⟨⟨nt5, r6⟩, hm6⟩ : ∃ n, Pm.skip s r Pm.wNot = n := ⟨_, rfl⟩
          obtain ⟨⟨g5, r4⟩, hm7⟩ : ∃ n, Pm.word s r6 = n := ⟨_, rfl⟩
          obtain ⟨⟨m5, r5⟩, hm5⟩ : ∃ n, Pm.skip s r4 [44] = n := ⟨_, rfl⟩
          have hg5 : Pm.guard1 s r = (⟨g5.t, nt5, g5.at_⟩, m5, r5) := by unfold Pm.guard1; rw [hm6, hm7, hm5]
          have hmo5 : m5 = true → r.g.to_ < r5.g.to_ := fun e => by have := Pm.guard1_more s r hL2.ok; rw [hg5] at this; exact this e
          have L5 := hide (Pm.guardL_step HL.out hg5)
          have HDD5 := hide (fun x => (Pm.guardL_dead (x := x) HL.out hm6 hm7 : Pm.dead r4 = some x → _))
          have N5 := hide hm5
          have N6 := hide hm6
          have N7 := hide hm7
          clear hm5 hg5 hm6 hm7
          go_wp2_with fail
          refine (guard_rd _ b s r N6.out N7.out hs hL2 HR2.out).mono ?_
          rintro e w3 ⟨hk3, (⟨hL3, rfl, hr3⟩ | ⟨x, hd, hth⟩)⟩
          · have HK3 := hide (HK2.out.trans hk3)
            have HR3 := hide hr3
            have HG3 := hide (ownsRow_alloc (ownsRow_kept HG2.out hk3 hlt) (.cells #[.int .i64 (g5.at_ : Int), .string g5.t, .bool nt5] 157))
            have hz3 := HK3.out.size
            clear hk3 hr3
            go_wp2_with (at_builtin; go_must (refine wpList_append_own _ rfl _ _ 125 rfl w.heap.size 157 iG (.agg #[.int .i64 0, .string ByteArray.empty, .bool false]) 3 32 Tryd.underlyingGuardsC hG hG0 hG1 hG2 rfl (by decide) _ _ _ rfl HG3.out ⟨w3.heap.size, 0, none⟩ 1 1 [.int .i64 (g5.at_ : Int), .string g5.t, .bool nt5] rfl rfl (cell_three_new _ _ _ _ _ _ rfl) one3C (by unfold maxLen; omega) (by omega) (by simp; omega) ?_; intro v4 w4 ho4 hg4 _; obtain ⟨a4, l4, c4, rfl⟩ := own_slice ho4; have HO4 := hide ho4; have HG4 := hide hg4; clear ho4 hg4))
            go_roundg n
            case measure => omega
            case rel =>
              obtain ⟨t5, ht1, ht2⟩ := L5.out
              have hrow : ∀ k, (Value.slice a l c).ownBlock = some k → w.heap.size ≤ k := fun k e => (World.ownsRow.lt HG3.out k e).1
              refine ⟨r4, acc ++ [⟨g5.t, nt5, g5.at_⟩], _, _, _, m5, r5, t5, rfl, ?_, hL3, ?_, (HK3.out.alloc _).grown HG4.out hrow, N5, ht2, ?_, ?_, ?_⟩
              · show GuardsC _ _ _ _
                unfold GuardsC
                rw [gdC_snoc, List.length_append]; exact HO4.out
              · exact (HR3.out.alloc _).same (HG4.out.block b (by have := HR3.out.lt; simp; omega) (fun e => by have := hrow b e.symm; omega))
              · show _ = _
                have h := HA.out
                rw [ht1] at h
                rw [List.append_assoc]; exact h
              · simp; omega
              · intro e; have := hmo5 e; omega
          · obtain ⟨pv, rfl⟩ := hth.shape
            have HK3 := hide (HK2.out.trans hk3)
            have HD := hide (HDD5.out x hd)
            have HH := hide hth
            clear hk3 hd hth
            go_wp2_with fail
            exact ⟨rfl, HK3.out, Or.inr ⟨x, HD.out, HH.out⟩⟩
      · obtain ⟨pv, rfl⟩ := hth.shape
        have HK2 := hide (HK.out.trans hk2)
        have HD := hide (show Pm.dead q = some x by have h := Pm.dead_guardL (s := s) (n := gk) (b := m') hd; rw [HL.out] at h; exact h)
        have HH := hide hth
        clear hk2 hd hth
        go_wp2_with fail
        exact ⟨rfl, HK2.out, Or.inr ⟨x, HD.out, HH.out⟩⟩
  · obtain ⟨pv, rfl⟩ := hth.shape
    have K1 := hide hk1
    have HD := hide (HDD.out x hd)
    have HH := hide hth
    clear hk1 hd hth
    go_wp2_with fail
    exact ⟨rfl, K1.out, Or.inr ⟨x, HD.out, HH.out⟩⟩

set_option maxRecDepth 100000 in
set_option maxHeartbeats 2000000 in
theorem severalA_rd (w : World) (b : Nat) (s : ByteArray) (p : Pm.Pn) {gs : List Pm.Ac} {q : Pm.Pn} (hn : Pm.actL s (s.size + 1) true p = (gs, q)) (hs : s.size ≤ 300) (hL : Pm.Live s p) (hp : RdAt w b s p.g) :
    Calls Tryd.prog 88 #[.pointer (some ⟨b, 0, none⟩), .func (Fn.func 71) #[.pointer (some ⟨b, 0, none⟩)] #[]] w fun e w' => Go1 b s w q (fun e w' => ∃ v, e = .returned v ∧ ActsC w' w.heap.size v gs) e w' := by
  have hlt := hp.lt
  obtain ⟨iG, hG, hG0, hG1, hG2⟩ := info_parts Tryd.infoSignC
  obtain ⟨⟨g, r2⟩, hm2⟩ : ∃ n, Pm.word s p = n := ⟨_, rfl⟩
  obtain ⟨⟨m, r3⟩, hm3⟩ : ∃ n, Pm.skip s r2 [44] = n := ⟨_, rfl⟩
  have hg1 : Pm.act1 s p = (⟨g.t, g.at_⟩, m, r3) := by unfold Pm.act1; rw [hm2, hm3]
  have hmo : m = true → p.g.to_ < r3.g.to_ := fun e => by have := Pm.act1_more s p hL.ok; rw [hg1] at this; exact this e
  have L3 := hide (Pm.actL_step hn hg1)
  have HDD := hide (fun x => (Pm.actL_dead (x := x) hn hm2 : Pm.dead r2 = some x → _))
  have N3 := hide hm3
  have N2 := hide hm2
  have HP := hide hp
  clear hn hm3 hg1 hp hm2
  go_enter Tryd.func88, Tryd.ntmps88
  go_wp2_with fail
  refine (word_rd _ b s p N2.out hs hL HP.out).mono ?_
  rintro e w1 ⟨hk1, (⟨hL1, rfl, hr1⟩ | ⟨x, hd, hth⟩)⟩
  · obtain ⟨t0, ht1, ht2⟩ := L3.out
    have K1 := hide hk1
    have R1 := hide hr1
    have hz1 := hk1.size
    have G1 := hide (own_new1 w1 w.heap.size 121 2 [.int .i64 (g.at_ : Int), .string g.t] rfl hz1)
    have T1 := hide ht1
    have T2 := hide ht2
    clear hk1 hr1 ht1 ht2
    go_wp2_with fail
    go_loopg [5] s.size (fun k lv wr => ∃ (p' : Pm.Pn) (acc : List Pm.Ac) (a : Option Addr) (l c : Nat) (m' : Bool) (r : Pm.Pn) (rest : List Pm.Ac), lv = .slice a l c ∧ Hid (ActsC wr w.heap.size (.slice a l c) acc) ∧ Pm.Live s p' ∧ Hid (RdAt wr b s p'.g) ∧ Hid (Kept b w wr) ∧ Hid (Pm.skip s p' [44] = (m', r)) ∧ Hid (Pm.actL s k m' r = (rest, q)) ∧ Hid (acc ++ rest = gs) ∧ acc.length + k ≤ 301 ∧ (m' = true → s.size < k + r.g.to_))
    case atStart =>
      refine ⟨r2, [⟨g.t, g.at_⟩], _, _, _, m, r3, t0, rfl, G1.out, hL1, R1.out.alloc _, K1.out.alloc _, N3.out, T2.out, T1.out.symm, by simp; omega, fun e => ?_⟩
      have := hmo e; omega
    case round =>
      clear G1 R1 K1
      obtain ⟨p', acc, a, l, c, m', r, rest, rfl, HG, hLp, HR, HK, HS, HL, HA, hlen, hfu⟩ := hrel
      go_wp2_with fail
      refine (skip_rd _ b s p' ⟨#[44]⟩ litComma (by decide) HS.out hs hLp HR.out).mono ?_
      rintro e w2 ⟨hk2, (⟨hL2, rfl, hr2⟩ | ⟨x, hd, hth⟩)⟩
      · have HK2 := hide (HK.out.trans hk2)
        have HR2 := hide hr2
        have HG2 := hide (ownsRow_kept HG.out hk2 hlt)
        clear hk2 hr2
        cases m'
        · obtain ⟨rfl, rfl⟩ := Pm.actL_stop HL.out
          go_wp2_with fail
          go_ret
          refine ⟨HK2.out, Or.inl ⟨hL2, ⟨_, rfl, ?_⟩, HR2.out⟩⟩
          have h := HA.out
          simp at h
          rw [← h]; exact HG2.out
        · have hfu := hfu rfl
          have hle2 : r.g.to_ ≤ s.size := hL2.ok
          obtain ⟨n, rfl⟩ : ∃ n, gk = n + 1 := ⟨gk - 1, by omega⟩
          obtain ⟨⟨g5, r4⟩, hm7⟩ : ∃ n, Pm.word s r = n := ⟨_, rfl⟩
          obtain ⟨⟨m5, r5⟩, hm5⟩ : ∃ n, Pm.skip s r4 [44] = n := ⟨_, rfl⟩
          have hg5 : Pm.act1 s r = (⟨g5.t, g5.at_⟩, m5, r5) := by unfold Pm.act1; rw [hm7, hm5]
          have hmo5 : m5 = true → r.g.to_ < r5.g.to_ := fun e => by have := Pm.act1_more s r hL2.ok; rw [hg5] at this; exact this e
          have L5 := hide (Pm.actL_step HL.out hg5)
          have HDD5 := hide (fun x => (Pm.actL_dead (x := x) HL.out hm7 : Pm.dead r4 = some x → _))
          have N5 := hide hm5
          have N7 := hide hm7
          clear hm5 hg5 hm7
          go_wp2_with fail
          refine (word_rd _ b s r N7.out hs hL2 HR2.out).mono ?_
          rintro e w3 ⟨hk3, (⟨hL3, rfl, hr3⟩ | ⟨x, hd, hth⟩)⟩
          · have HK3 := hide (HK2.out.trans hk3)
            have HR3 := hide hr3
            have HG3 := hide (ownsRow_alloc (ownsRow_kept HG2.out hk3 hlt) (.cells #[.int .i64 (g5.at_ : Int), .string g5.t] 121))
            have hz3 := HK3.out.size
            clear hk3 hr3
            go_wp2_with (at_builtin; go_must (refine wpList_append_own _ rfl _ _ 126 rfl w.heap.size 121 iG (.agg #[.int .i64 0, .string ByteArray.empty]) 2 24 Tryd.underlyingSignsC hG hG0 hG1 hG2 rfl (by decide) _ _ _ rfl HG3.out ⟨w3.heap.size, 0, none⟩ 1 1 [.int .i64 (g5.at_ : Int), .string g5.t] rfl rfl (cell_two_new _ _ _ _) one2C (by unfold maxLen; omega) (by omega) (by simp; omega) ?_; intro v4 w4 ho4 hg4 _; obtain ⟨a4, l4, c4, rfl⟩ := own_slice ho4; have HO4 := hide ho4; have HG4 := hide hg4; clear ho4 hg4))
            go_roundg n
            case measure => omega
            case rel =>
              obtain ⟨t5, ht1, ht2⟩ := L5.out
              have hrow : ∀ k, (Value.slice a l c).ownBlock = some k → w.heap.size ≤ k := fun k e => (World.ownsRow.lt HG3.out k e).1
              refine ⟨r4, acc ++ [⟨g5.t, g5.at_⟩], _, _, _, m5, r5, t5, rfl, ?_, hL3, ?_, (HK3.out.alloc _).grown HG4.out hrow, N5, ht2, ?_, ?_, ?_⟩
              · show ActsC _ _ _ _
                unfold ActsC
                rw [acC_snoc, List.length_append]; exact HO4.out
              · exact (HR3.out.alloc _).same (HG4.out.block b (by have := HR3.out.lt; simp; omega) (fun e => by have := hrow b e.symm; omega))
              · show _ = _
                have h := HA.out
                rw [ht1] at h
                rw [List.append_assoc]; exact h
              · simp; omega
              · intro e; have := hmo5 e; omega
          · obtain ⟨pv, rfl⟩ := hth.shape
            have HK3 := hide (HK2.out.trans hk3)
            have HD := hide (HDD5.out x hd)
            have HH := hide hth
            clear hk3 hd hth
            go_wp2_with fail
            exact ⟨rfl, HK3.out, Or.inr ⟨x, HD.out, HH.out⟩⟩
      · obtain ⟨pv, rfl⟩ := hth.shape
        have HK2 := hide (HK.out.trans hk2)
        have HD := hide (show Pm.dead q = some x by have h := Pm.dead_actL (s := s) (n := gk) (b := m') hd; rw [HL.out] at h; exact h)
        have HH := hide hth
        clear hk2 hd hth
        go_wp2_with fail
        exact ⟨rfl, HK2.out, Or.inr ⟨x, HD.out, HH.out⟩⟩
  · obtain ⟨pv, rfl⟩ := hth.shape
    have K1 := hide hk1
    have HD := hide (HDD.out x hd)
    have HH := hide hth
    clear hk1 hd hth
    go_wp2_with fail
    exact ⟨rfl, K1.out, Or.inr ⟨x, HD.out, HH.out⟩⟩

end Go.Proofs.YtcijookbgliglaaDoor
