import Derived.Test.YtcijookbgliglaaDoorUA
/- The walk over the law Walks. -/
namespace Go.Proofs.YtcijookbgliglaaDoor
open Go.RowKit

theorem Tryd.underlyingRHaps : Tryd.prog.underlying 32 = some (.slice 36) := by kernel_rfl
theorem Tryd.infoRHap : (Tryd.prog.info? 36).map (fun i => (i.zero, i.size, i.bytes)) = some (some (.agg #[.string ByteArray.empty, .slice none 0 0]), 2, 40) := by kernel_rfl

set_option maxRecDepth 100000 in
set_option maxHeartbeats 16000000 in
theorem walks_any (w : World) (s : ByteArray) (v : Value) (l : List Hp) (hT : Tab w) (hA : HapsA w v l) (hlen : l.length * 40 ≤ 140737488351232) :
    Calls Tryd.prog 4 #[.string s, v] w fun e w' => e = .returned (.bool true) ∧ Below w.heap.size w w' := by
  obtain ⟨⟨f, pl⟩, hf⟩ : ∃ a, Pm.answer s = a := ⟨_, rfl⟩
  have HC := hide (compile_any w s hT)
  have HF := hide hf
  have HA := hide hA
  obtain ⟨a, c, rfl, hlc, hcm, hcell⟩ := hA
  have HZ := hide (show ∀ (j : Nat) (hj : j < l.length), l[j].1.size ≤ maxLen from fun j hj => by obtain ⟨_, _, _, _, _, _, _, hz⟩ := hcell j hj; exact hz)
  obtain ⟨iT, hT, hT0, hT1, hT2⟩ := info_parts Tryd.infoRHap
  clear hf hcell
  go_enter Tryd.func4, Tryd.ntmps4
  go_wp2_with fail
  refine HC.out.mono ?_
  rintro e w1 ⟨p, rfl, hb1, hp1, hp2⟩
  have HB1 := hide hb1
  rw [HF.out] at hp1 hp2 ⊢
  have HP1 := hide hp1
  have HP2 := hide hp2
  clear hb1 hp1 hp2
  go_wp2_with fail
  refine (refCompile_any w1 s).mono ?_
  rintro e w2 ⟨lv, rfl, hb2, hst⟩
  have HB2 := hide (HB1.out.trans (hb2.mono HB1.out.size))
  have HB12 := hide hb2
  rw [HF.out] at hst ⊢
  have HST := hide hst
  clear hb2 hst
  go_wp2_with fail
  refine (num_any f w2).mono ?_
  rintro e w3 ⟨rfl, rfl⟩
  by_cases h0 : f = 0
  · subst h0
    obtain ⟨b, wa, wb, sv, tv, gs, rfl, hbox, hz, hL, hgs, hbw⟩ := HP2.out rfl
    have hM : MachAt w1 (wa.heap.size + 1) wa.heap.size (Pm.readL s).1 := ⟨⟨wa, sv, tv, gs, rfl, rfl, hL.by_ hbw, hgs⟩⟩
    have hM3 := hM.below HB12.out
    have hbx := (HB12.out.block b (Array.getElem?_eq_some_iff.1 hbox).1).trans hbox
    have hS := HST.out rfl
    obtain ⟨sa, sc, hsv, -⟩ := hS.at2
    subst hsv
    have hFew := few_of_answer s (by rw [HF.out])
    have hGl := goals_of_answer s (by rw [HF.out])
    have hPos := Pm.read_some s
    clear HP1 HP2 HC HF HST hL hgs hbw hz hM hbox
    generalize (Pm.readL s).1 = sts at hM3 hFew hGl hPos hS ⊢
    generalize wa.heap.size + 1 = X at hM3 hbx
    generalize wa.heap.size = base at hM3
    generalize w1.heap.size + 1 = bs at hS
    have HM := hide hM3
    have HFw := hide hFew
    have HGl := hide hGl
    have HBx := hide hbx
    have HS := hide hS
    have HA3 := hide (HA.out.below HB2.out (Nat.le_refl _))
    clear hM3 hFew hGl hbx hS HB12 HB1
    go_wp2_with fail
    go_loopg [11, 12] l.length (fun gk st i wr => ∃ (k : Nat) (ha : Option Addr) (hn hc : Nat), k + gk = l.length ∧ i = .int .i64 (k : Int) ∧ st = .slice ha hn hc ∧ Hid (Below w3.heap.size w3 wr) ∧ Hid (HapsC 36 w3 wr w3.heap.size (.slice ha hn hc) (l.take k)))
    case atStart => exact ⟨0, none, 0, 0, by omega, rfl, rfl, Below.refl _ _, [], rfl, World.ownsRow_nil _ _ _ _, fun j h1 => by simp at h1⟩
    case round =>
      obtain ⟨k, ha, hn, hc, hk, rfl, rfl, HB, HR⟩ := hrel
      have hk1 : k ≤ l.length := by omega
      have E1 := hide hk
      clear hk
      by_cases hlt : k < l.length
      · obtain ⟨a', c', hv, _, _, hcell⟩ := HA3.out.below HB.out (Nat.le_refl _)
        simp only [Value.slice.injEq] at hv
        obtain ⟨rfl, _, rfl⟩ := hv
        obtain ⟨b0, o, hv, rfl, d0, d1, hst, hz⟩ := hcell k hlt
        have hst0 : StrsA w3 hv l[k].2 := by
          obtain ⟨a9, c9, h9, _, _, hc9⟩ := HA3.out
          simp only [Value.slice.injEq] at h9
          obtain ⟨rfl, _, rfl⟩ := h9
          obtain ⟨b9, o9, hv9, h9, _, h10, h11, _⟩ := hc9 k hlt
          simp only [Option.some.injEq, Addr.mk.injEq] at h9
          obtain ⟨rfl, rfl, _⟩ := h9
          have hbl := World.block_lt_of_cell? w3 _ h10
          have := (HB.out.cell (p := ⟨b0, o + k * 2 + 1, none⟩) hbl).trans h10
          rw [this] at d1
          simp at d1
          rw [← d1]; exact h11
        have HST := hide hst0
        obtain ⟨sa2, sc2, rfl, -⟩ := hst
        obtain ⟨ys, hy1, hy2, hy3⟩ := HR.out
        have hyl : ys.length = k := by rw [hy1, List.length_take]; omega
        have hsz := HB.out.size
        have HY := hide hy2
        have HY3 := hide hy3
        clear hcell hst0 hy2 hy3
        go_wp2_with fail
        go_region_law ((have JB := ownsRow_same (w' := wr.drew.alloc (.cells #[.string l[k].1, .slice sa2 l[k].2.length sc2] 36)) HY.out (fun j _ h2 => Below.heap_alloc _ _ _ h2); refine step_append_own (by rfl) _ _ 32 (by rfl) w3.heap.size 36 iT (.agg #[.string ByteArray.empty, .slice none 0 0]) 2 40 Tryd.underlyingRHaps hT hT0 hT1 hT2 rfl (by decide) _ _ _ (by rfl) JB ⟨wr.heap.size, 0, none⟩ 1 1 [.string l[k].1, .slice sa2 l[k].2.length sc2] (by rfl) rfl (cell_two_new' _ _ _ _ _ rfl) one2H (by unfold maxLen; omega) (by omega) (by simp; omega) ?_; intro v7 w7 ho7 hg7 _; obtain ⟨a7, l7, c7, rfl⟩ := own_slice ho7; have hrow : ∀ kk, (Value.slice ha hn hc).ownBlock = some kk → w3.heap.size ≤ kk := (fun kk e' => (World.ownsRow.lt JB kk e').1); have HB7 := hide (((HB.out.trans (Below.refl _ _).drew).alloc (by simpa using hsz) (.cells #[.string l[k].1, .slice sa2 l[k].2.length sc2] 36)).grown hg7 (by simp; omega) hrow); have HO7 := hide ho7; clear ho7 hg7 JB hrow))
        all_goals
          go_wp2_with fail
          go_roundg (l.length - (k + 1))
          case measure => have := E1.out; omega
          case rel =>
            refine ⟨k + 1, a7, l7, c7, by omega, by go_num, rfl, HB7, ys ++ [(l[k].1, .slice sa2 l[k].2.length sc2)], ?_, ?_, ?_⟩
            · rw [List.length_append, hyl, List.length_take]; simp; omega
            · rw [hapC_snoc, List.length_append]; exact HO7.out
            · intro j h1 h2
              rw [List.getElem_take]
              by_cases hj : j < ys.length
              · rw [List.getElem_append_left hj]
                have := HY3.out j hj (by rw [List.length_take]; omega)
                rw [List.getElem_take] at this
                exact this
              · have : j = k := by rw [List.length_append] at h1; simp at h1; omega
                subst this
                rw [List.getElem_append_right (by omega)]
                simp only [hyl, Nat.sub_self, List.getElem_cons_zero]
                exact ⟨trivial, HST.out⟩
      · have hkk : k = l.length := by omega
        subst hkk
        rename World => w4
        have HH4 := hide (show HapsA w4 (.slice ha hn hc) l by
          have := HR.out
          rw [List.take_length] at this
          exact this.haps HB.out HZ.out)
        have HB4 := HB
        clear HR HB E1 hk1 hlt
        go_wp2_with fail
        refine (happenings_any _ _ l (HA3.out.below HB4.out (Nat.le_refl _)) (by omega)).mono ?_
        rintro e w5 ⟨v5, rfl, hA5, hb5⟩
        have HA5 := hide hA5
        have HB45 := hide hb5
        have HB5 := hide (HB4.out.trans (hb5.mono HB4.out.size))
        clear hA5 hb5
        go_wp2_with fail
        refine (walkM_any w5 b X base sts v5 l HFw.out ((HB5.out.block b (Array.getElem?_eq_some_iff.1 HBx.out).1).trans HBx.out) (HM.out.below HB5.out) HA5.out (by omega)).mono ?_
        rintro e w6 ⟨g6, rfl, hT6, hb6⟩
        have HT6 := hide hT6
        have HB56 := hide hb6
        have HB6 := hide (HB5.out.trans (hb6.mono HB5.out.size))
        clear hT6 hb6 HA5
        go_wp2_with fail
        refine (happenings_any _ _ l (HA3.out.below HB6.out (Nat.le_refl _)) (by omega)).mono ?_
        rintro e w7 ⟨v7, rfl, hA7, hb7⟩
        have HA7 := hide hA7
        have HB67 := hide hb7
        have HB7 := hide (HB6.out.trans (hb7.mono HB6.out.size))
        clear hA7 hb7
        go_wp2_with fail
        refine (walkM_any w7 b X base sts v7 l HFw.out ((HB7.out.block b (Array.getElem?_eq_some_iff.1 HBx.out).1).trans HBx.out) (HM.out.below HB7.out) HA7.out (by omega)).mono ?_
        rintro e w8 ⟨g8, rfl, hT8, hb8⟩
        have HZ8 := hide (show ZIn w8 w7.heap.size g8 l.length by have := ZIn.of hT8; rw [Pm.walkL_len] at this; exact this)
        have HB68 := hide (HB67.out.trans (hb8.mono HB67.out.size))
        have hz7 := HB67.out.size
        clear hT8 hb8 HA7 HB7
        go_wp2_with fail
        go_loopg [15] l.length (fun gk i wr => ∃ k : Nat, k + gk = l.length ∧ i = .int .i64 (k : Int) ∧ Hid (Below w6.heap.size w6 wr) ∧ Hid (ZIn wr w7.heap.size g8 l.length))
        case atStart => exact ⟨0, by omega, rfl, HB68, HZ8⟩
        case round =>
          clear HZ8 HB68
          rename World => w0
          obtain ⟨k, hk, rfl, HB, HI⟩ := hrel
          have hk1 : k ≤ l.length := by omega
          have E1 := hide hk
          clear hk
          by_cases hlt : k < l.length
          · obtain ⟨za, zm, zc, u0, u1, z2, hRm, z0, z1, zf⟩ := HI.out.at_ k hlt
            have hzm : zm ≤ 9223372036854775807 := by
              obtain ⟨a', c', hv, h1, h2, _⟩ := hRm
              simp only [Value.slice.injEq] at hv
              omega
            have HRm := hide hRm
            have HZ2 := hide z2
            clear hRm z0 z1
            go_wp2_with fail
            go_loopg [16] zm (fun g2 j wi => ∃ q : Nat, q + g2 = zm ∧ j = .int .i64 (q : Int) ∧ Hid (Below w6.heap.size w6 wi) ∧ Hid (ZIn wi w7.heap.size g8 l.length) ∧ Hid (wi.cell? ⟨g8, k * 3 + 2, none⟩ = some (.slice za zm zc)) ∧ Hid (Room wi w7.heap.size (.slice za zm zc) zm))
            case atStart => exact ⟨0, by omega, rfl, HB, HI, HZ2, HRm⟩
            case round =>
              clear z2 zf HRm HZ2 HB HI
              obtain ⟨q, hq, rfl, HB, HI, HZ2, HRm⟩ := hrel
              have hq1 : q ≤ zm := by omega
              have E2 := hide hq
              clear hq
              have z2 := HZ2.out
              by_cases hql : q < zm
              · obtain ⟨gr, ur, rfl, hbr, hcapr, r0, rf, csr, hcr⟩ := HRm.out.at_ q hql
                have HI2 := hide (HI.out.setS (q := q) hcr (.string ⟨#[63]⟩))
                go_wp2_with fail
                go_roundg (zm - (q + 1))
                case measure => have := E2.out; omega
                case rel => exact ⟨q + 1, by omega, by go_num, HB.out.setCell (by simp; omega) _, HI2.out.1, (HI2.out.2 _).trans HZ2.out, HRm.out.set _ _ _⟩
              · obtain ⟨za', zm', zc', u0, u1, -, -, z0, z1, zf⟩ := HI.out.at_ k hlt
                have hg8 : w6.heap.size ≤ g8 := by obtain ⟨_, _, _, h, _⟩ := HI.out; omega
                have HI2 := hide (HI.out.zero k (.int .i64 0) (.string ⟨#[]⟩))
                go_wp2_with fail
                go_roundg (l.length - (k + 1))
                case measure => have := E1.out; omega
                case rel => exact ⟨k + 1, by omega, by go_num, ((HB.out.setCell hg8 _).setCell hg8 _).setCell hg8 _, HI2⟩
          · have hkk : k = l.length := by omega
            subst hkk
            rename World => w9
            clear HI E1 hk1 hlt
            have HB39 := hide (HB6.out.trans (HB.out.mono HB6.out.size))
            have HB49 := hide ((HB45.out.trans (HB56.out.mono HB45.out.size)).trans (HB.out.mono (HB45.out.trans (HB56.out.mono HB45.out.size)).size))
            have hz9 := HB.out.size
            go_wp2_with fail
            refine (refWalk_any w3 w9 bs sa sts.length sc sts _ l HS.out HB39.out (HH4.out.below HB49.out (Nat.le_refl _)) HGl.out hPos (by omega)).mono ?_
            rintro e w10 ⟨v10, rfl, hR, hb10⟩
            obtain ⟨ts, ht1, ht2, ht3⟩ := hR
            obtain ⟨ta, tn, tc, rfl⟩ := own_slice ht2
            obtain ⟨htn, -, -⟩ := own_len ht2
            have htl : ts.length = l.length := by rw [← List.length_map (f := fun x : Pm.Tk × Value => x.1), ht1, Pm.walkL_len]
            rw [htl] at htn
            subst htn
            obtain ⟨xs, hx1, hx0, hx2, hx3, hx4⟩ := HT6.out
            have hxl : xs.length = l.length := by rw [← List.length_map (f := fun x : Pm.Tk × Value => x.1), hx1, Pm.walkL_len]
            have hb610 : Below w6.heap.size w6 w10 := HB.out.trans (hb10.mono hz9)
            have HL0 := hide (show LIn w10 w5.heap.size w6.heap.size g6 sts xs 0 by
              rw [Pm.walkL_len, ← hxl] at hx2
              exact ⟨hx2.below hb610, fun j hj _ => (hx3 _ (List.getElem_mem hj)).below hb610, fun x hx kk hkk => (World.ownsRow.lt (hx3 x hx) kk hkk).2, hx4⟩)
            have HSame := hide (show xs.map (·.1) = ts.map (·.1) from hx1.trans ht1.symm)
            have HT1 := hide ht1
            have HTO := hide ht2
            have HTR := hide ht3
            have HB310 := hide (HB39.out.trans (hb10.mono HB39.out.size))
            have hz35 := HB5.out.size
            have hz56 := HB56.out.size
            have hz310 := HB310.out.size
            have hz610 := hb610.size
            clear hb610 hx1 hx2 hx3 hx4 hx0 ht1 ht2 ht3 HT6 hb10 HB49 HB39 HB
            go_wp2_with fail
            go_loopg [18] l.length (fun gk i wr => ∃ k : Nat, k + gk = l.length ∧ i = .int .i64 (k : Int) ∧ Hid (KeptOut w5.heap.size w6.heap.size w10 wr) ∧ Hid (LIn wr w5.heap.size w6.heap.size g6 sts xs k))
            case atStart => exact ⟨0, by omega, rfl, KeptOut.refl _ _ _, HL0⟩
            case round =>
              clear HL0
              rename World => w0
              obtain ⟨k, hk, rfl, HK, HL⟩ := hrel
              have hk1 : k ≤ l.length := by omega
              have E1 := hide hk
              clear hk
              have HTO0 := hide (show w0.ownsRow w9.heap.size 46 3 (.slice ta l.length tc) ts.length (rtC sts ts) from ownsRow_same HTO.out (fun kk h1 h2 => HK.out.block kk h2 (.inr (by omega))))
              have HB30 := hide (HB310.out.trans (HK.out.below (B := w3.heap.size) (by omega) (by omega)))
              have HTS := hide (show ∀ (j : Nat) (hj : j < ts.length), StrsA w0 ts[j].2 ts[j].1.acts from fun j hj => by
                rcases HTR.out ts[j] (List.getElem_mem hj) with h | h
                · exact (h.below HB30.out).strs
                · exact (show NewS w0 w9.heap.size ts[j].2 ts[j].1.acts from ownsRow_same h (fun kk h1 h2 => HK.out.block kk h2 (.inr (by omega)))).strs)
              by_cases hlt : k < l.length
              · have hkx : k < xs.length := by omega
                have hkt : k < ts.length := by omega
                obtain ⟨d0, d1, d2⟩ := HL.out.taks.cells k hkx
                have hxk := HL.out.rows k hkx (Nat.le_refl _)
                have HXK := hide hxk
                obtain ⟨xa, xn, xc, hxv⟩ := own_slice hxk
                have hxb := HL.out.lt xs[k] (List.getElem_mem hkx)
                rw [hxv] at d2 HXK hxb
                have hxn : xn = xs[k].1.acts.length := (own_len (show World.ownsRow _ _ _ _ _ _ _ from HXK.out)).1
                have hxm : xn ≤ 9223372036854775807 := by
                  obtain ⟨h1, h2, _⟩ := own_len (show World.ownsRow _ _ _ _ _ _ _ from HXK.out)
                  omega
                have HXN := hide hxn
                clear hxn
                obtain ⟨gt, rfl, hgb, hgt, htc, e0, e1, e2⟩ := rt_at HTO0.out k hkt
                have htk := HTS.out k hkt
                rw [map_same HSame.out k hkx hkt] at e0 e1 htk
                have HTK := hide htk
                obtain ⟨ua, uc, huv, -⟩ := htk
                rw [huv] at e2 HTK
                have hgx : g6 < w0.heap.size := HL.out.taks.lt
                clear hxk
                go_upto_region 28 with fail
                go_cut [19] (fun y wc => y = .bool true ∧ Hid (Below w0.heap.size w0 wc))
                case first =>
                  go_region_with (go_at_call 12; refine (texts_same _ _ _ xs[k].1.acts ?_ ?_).mono ?_; exact HXK.out.strs.below ((Below.refl _ _).drew) (Nat.le_refl _); exact HTK.out.below ((Below.refl _ _).drew) (Nat.le_refl _); rintro e w11 ⟨rfl, hb11⟩; have HB11 := hide hb11; clear hb11)
                  all_goals
                    go_wp2_with fail
                    go_meet
                    case rel => exact ⟨rfl, (Below.refl _ _).drew.trans HB11.out⟩
                case rest =>
                  obtain ⟨rfl, HBc⟩ := hcut
                  have d0' := (HBc.out.cell (p := ⟨g6, k * 3, none⟩) hgx).trans d0
                  have d1' := (HBc.out.cell (p := ⟨g6, k * 3 + 1, none⟩) hgx).trans d1
                  have e0' := (HBc.out.cell (p := ⟨gt, k * 3, none⟩) hgt).trans e0
                  have e1' := (HBc.out.cell (p := ⟨gt, k * 3 + 1, none⟩) hgt).trans e1
                  have HBd := hide (show ∀ nd, Below w0.heap.size w0 (wc.drewN nd) from fun nd => below_drewN HBc.out nd)
                  have HRd := hide (show ∀ nd, Room (wc.drewN nd) w5.heap.size (.slice xa xn xc) xn from fun nd => by
                    have hrm := (HXK.out.below (HBd.out nd)).room
                    rw [← HXN.out] at hrm
                    exact hrm)
                  go_wp2_with fail
                  go_quiet (fail)
                  go_wp2_with fail
                  go_loopg [20] xn (fun g2 j wi => ∃ q : Nat, q + g2 = xn ∧ j = .int .i64 (q : Int) ∧ Hid (KeptOut w5.heap.size w6.heap.size w10 wi) ∧ Hid (LIn wi w5.heap.size w6.heap.size g6 sts xs (k + 1)) ∧ Hid (Room wi w5.heap.size (.slice xa xn xc) xn))
                  case atStart =>
                    exact ⟨0, by omega, rfl, HK.out.then_ (HBd.out _), (HL.out.below (HBd.out _)).next, HRd.out _⟩
                  case round =>
                    clear d0 d1 d2 d0' d1' e0 e1 e2 e0' e1' HK HL
                    obtain ⟨q, hq, rfl, HK, HL, HRm⟩ := hrel
                    have hq1 : q ≤ xn := by omega
                    have E2 := hide hq
                    clear hq
                    obtain ⟨-, -, d2⟩ := HL.out.taks.cells k hkx
                    rw [hxv] at d2
                    by_cases hql : q < xn
                    · obtain ⟨gr, ur, rfl, hbr, hcapr, r0, rf, csr, hcr⟩ := HRm.out.at_ q hql
                      have hgr : gr < w6.heap.size := hxb gr rfl
                      have HL2 := hide (HL.out.set hkx (p := ⟨gr, q, none⟩) (by rw [hxv]; rfl) hcr (.string ⟨#[]⟩))
                      go_wp2_with fail
                      go_roundg (xn - (q + 1))
                      case measure => have := E2.out; omega
                      case rel => exact ⟨q + 1, by omega, by go_num, HK.out.setCell hbr hgr _, HL2, HRm.out.set _ _ _⟩
                    · go_wp2_with fail
                      go_roundg (l.length - (k + 1))
                      case measure => have := E1.out; omega
                      case rel => exact ⟨k + 1, by omega, by go_num, HK, HL⟩
              · have hkk : k = l.length := by omega
                subst hkk
                clear E1 hk1 hlt HL
                have HK0 := HK
                go_wp2_with fail
                refine (happenings_any _ _ l (HA3.out.below HB30.out (Nat.le_refl _)) (by omega)).mono ?_
                rintro e w11 ⟨v11, rfl, hA11, hb11⟩
                have HA11 := hide hA11
                have HB011 := hide hb11
                have HB311 := hide (HB30.out.trans (hb11.mono HB30.out.size))
                clear hA11 hb11
                go_wp2_with fail
                refine (walkM_any w11 b X base sts v11 l HFw.out ((HB311.out.block b (Array.getElem?_eq_some_iff.1 HBx.out).1).trans HBx.out) (HM.out.below HB311.out) HA11.out (by omega)).mono ?_
                rintro e w12 ⟨g12, rfl, hT12, hb12⟩
                have HB012 := hide (HB011.out.trans (hb12.mono HB011.out.size))
                have HB312 := hide (HB311.out.trans (hb12.mono HB311.out.size))
                obtain ⟨zs, hz1, -, hz2, hz3, -⟩ := hT12
                have hzl : zs.length = l.length := by rw [← List.length_map (f := fun x : Pm.Tk × Value => x.1), hz1, Pm.walkL_len]
                have HZ2 := hide hz2
                have HZ3 := hide hz3
                have HZS := hide (show zs.map (·.1) = ts.map (·.1) from hz1.trans HT1.out.symm)
                clear hb12 hz1 hz2 hz3 HA11
                go_wp2_with fail
                go_loopg [22] l.length (fun gk i wr => ∃ k : Nat, k + gk = l.length ∧ i = .int .i64 (k : Int) ∧ Hid (Below w12.heap.size w12 wr))
                case atStart => exact ⟨0, by omega, rfl, Below.refl _ _⟩
                case round =>
                  rename World => w13
                  obtain ⟨k, hk, rfl, HB⟩ := hrel
                  have hk1 : k ≤ l.length := by omega
                  have E1 := hide hk
                  clear hk
                  have HB013 := hide (HB012.out.trans (HB.out.mono HB012.out.size))
                  by_cases hlt : k < l.length
                  · have hkz : k < zs.length := by omega
                    have hkt : k < ts.length := by omega
                    obtain ⟨-, -, d2⟩ := (HZ2.out.below HB.out).cells k hkz
                    have hzk := (HZ3.out zs[k] (List.getElem_mem hkz)).below HB.out
                    have HZK := hide hzk
                    obtain ⟨xa, xn, xc, hxv⟩ := own_slice hzk
                    rw [hxv] at d2 HZK
                    obtain ⟨gt, rfl, hgb, hgt, htc, -, -, e2⟩ := rt_at (ownsRow_same (w' := w13) HTO0.out (fun kk _ h2 => HB013.out.block kk h2)) k hkt
                    have htk := (HTS.out k hkt).below HB013.out (Nat.le_refl _)
                    rw [map_same HZS.out k hkz hkt] at htk
                    have HTK := hide htk
                    obtain ⟨ua, uc, huv, -⟩ := htk
                    rw [huv] at e2 HTK
                    have hgx := (HZ2.out.below HB.out).lt
                    clear hzk
                    go_upto_region 39 with fail
                    go_cut [23] (fun y wc => y = .bool true ∧ Hid (Below w13.heap.size w13 wc))
                    case first =>
                      go_region_with (go_at_call 12; refine (texts_same _ _ _ zs[k].1.acts ?_ ?_).mono ?_; exact HZK.out.strs.below ((Below.refl _ _).drew) (Nat.le_refl _); exact HTK.out.below ((Below.refl _ _).drew) (Nat.le_refl _); rintro e w14 ⟨rfl, hb14⟩; have HB14 := hide hb14; clear hb14)
                      all_goals
                        go_wp2_with fail
                        go_meet
                        case rel => exact ⟨rfl, (Below.refl _ _).drew.trans HB14.out⟩
                    case rest =>
                      obtain ⟨rfl, HBc⟩ := hcut
                      go_wp2_with fail
                      go_roundg (l.length - (k + 1))
                      case measure => have := E1.out; omega
                      case rel => exact ⟨k + 1, by omega, by go_num, HB.out.trans (HBc.out.mono HB.out.size)⟩
                  · go_wp2_with fail
                    go_ret
                    exact ⟨rfl, HB2.out.trans ((HB312.out.trans (HB.out.mono HB312.out.size)).mono HB2.out.size)⟩
  · obtain rfl := HP1.out h0
    have h1 : (f == 0) = false := by simpa using h0
    go_wp2_with fail
    go_ret
    exact ⟨rfl, HB2.out⟩
end Go.Proofs.YtcijookbgliglaaDoor
