import Derived.Test.YtcijookbgliglaaDoorVf
/- The walk over the law Onward. -/
namespace Go.Proofs.YtcijookbgliglaaDoor
open Go.RowKit

theorem answer_few (s : ByteArray) (h : (Pm.answer s).1 = 0) : FewM (Pm.readL s).1 := by
  have hs : ¬ 300 < s.size := by
    intro hs
    unfold Pm.answer at h
    rw [if_pos hs] at h
    simp at h
  intro st hst r hr
  have := ((Pm.readL_few s st hst).2 r hr).2.1
  omega
theorem answer_goals (s : ByteArray) (h : (Pm.answer s).1 = 0) : Pm.goallessO (Pm.readL s).1 = none := by
  unfold Pm.answer at h
  split at h
  · simp at h
  · split at h
    · simp at h
    · unfold Pm.verdict at h
      cases h1 : Pm.manyO (Pm.readL s).1 with
      | some p => rw [h1] at h; simp at h
      | none =>
        rw [h1] at h
        cases h2 : Pm.doubledO (Pm.readL s).1 with
        | some p => rw [h2] at h; simp at h
        | none =>
          rw [h2] at h
          cases h3 : Pm.goallessO (Pm.readL s).1 with
          | some p => rw [h3] at h; simp at h
          | none => rfl

theorem onw_at {sts : List Pm.St} {l : List Hp} {xs : List (Pm.Tk × Value)} (hx : xs.map (·.1) = Pm.walkL sts 0 l) (k : Nat) (hk : k < xs.length) : ∃ hl : k < l.length, xs[k].1 = Pm.step1 sts (Pm.endRow sts 0 (l.take k)) l[k].1 l[k].2 := by
  have hl : k < l.length := by rw [← Pm.walkL_len sts l 0, ← hx, List.length_map]; exact hk
  refine ⟨hl, ?_⟩
  have h1 := Pm.walkL_get sts l k hl
  rw [← hx, List.getElem?_map, List.getElem?_eq_getElem hk] at h1
  simpa using h1
theorem onw_shut {sts : List Pm.St} {l : List Hp} {xs : List (Pm.Tk × Value)} (hn : Pm.Named sts) (hx : xs.map (·.1) = Pm.walkL sts 0 l) (k : Nat) (hk : k + 1 < xs.length) (h : Pm.eqB (Pm.stateW sts xs[k].1.row) Pm.closedW = true) : xs[k + 1].1.rule = -1 ∧ Pm.stateW sts xs[k + 1].1.row = Pm.closedW ∧ xs[k + 1].1.acts = [] := by
  obtain ⟨h1, h2⟩ := onw_at hx k (by omega)
  obtain ⟨h3, h4⟩ := onw_at hx (k + 1) hk
  have h5 := Pm.stateW_closed hn _ h
  have h6 : Pm.endRow sts 0 (l.take (k + 1)) = xs[k].1.row := by rw [List.take_succ_eq_append_getElem h1, Pm.endRow_snoc, h2]
  rw [h6, Pm.step1_shut h5] at h4
  rw [h4]
  exact ⟨rfl, Pm.stateW_none h5, rfl⟩
theorem onw_none {sts : List Pm.St} {l : List Hp} {xs : List (Pm.Tk × Value)} (hx : xs.map (·.1) = Pm.walkL sts 0 l) (k : Nat) (hk : k < xs.length) (h : xs[k].1.rule < 0) : Pm.stateW sts xs[k].1.row = Pm.closedW := by
  obtain ⟨h1, h2⟩ := onw_at hx k hk
  rw [h2] at h ⊢
  exact Pm.step1_none _ _ _ _ h
theorem onw_same {sts : List Pm.St} {l : List Hp} {xs ys : List (Pm.Tk × Value)} {m : Nat} (hx : xs.map (·.1) = Pm.walkL sts 0 l) (hy : ys.map (·.1) = Pm.walkL sts 0 (l.take m)) (k : Nat) (hk : k < xs.length) (hk2 : k < ys.length) : ys[k].1 = xs[k].1 := by
  have h1 : (ys.map (·.1))[k]? = (xs.map (·.1))[k]? := by
    rw [hx, hy, Pm.walkL_take, List.getElem?_take]
    have : k < m := by
      have h2 := Pm.walkL_len sts (l.take m) 0
      rw [← hy, List.length_map, List.length_take] at h2
      omega
    rw [if_pos this]
  rw [List.getElem?_map, List.getElem?_map, List.getElem?_eq_getElem hk, List.getElem?_eq_getElem hk2] at h1
  simpa using h1

set_option maxRecDepth 100000 in
set_option maxHeartbeats 8000000 in
theorem onward_any (w : World) (s : ByteArray) (v : Value) (l : List Hp) (n : Int) (hT : Tab w) (hA : HapsA w v l) (hlen : l.length * 40 ≤ 140737488351232) (hn0 : -9223372036854775808 ≤ n) (hn1 : n ≤ 9223372036854775807) :
    Calls Tryd.prog 5 #[.string s, v, .int .i64 n] w fun e w' => e = .returned (.bool true) ∧ Below w.heap.size w w' := by
  obtain ⟨⟨f, pl⟩, hf⟩ : ∃ a, Pm.answer s = a := ⟨_, rfl⟩
  have HC := hide (compile_any w s hT)
  have HF := hide hf
  have HA := hide hA
  obtain ⟨a, c, rfl, hlc, hcm, -⟩ := hA
  clear hT hf
  go_enter Tryd.func5, Tryd.ntmps5
  go_wp2_with fail
  refine HC.out.mono ?_
  rintro e w1 ⟨p, rfl, hb1, hp1, hp2⟩
  have HB1 := hide hb1
  rw [HF.out] at hp1 hp2 ⊢
  have HP1 := hide hp1
  have HP2 := hide hp2
  clear hb1 hp1 hp2
  go_wp2_with fail
  refine (num_any f w1).mono ?_
  rintro e w2 ⟨rfl, rfl⟩
  by_cases h0 : f = 0
  · subst h0
    obtain ⟨b, wa, wb, sv, tv, gs, rfl, hbox, hz, hL, hgs, hbw⟩ := HP2.out rfl
    have hM : MachAt w2 (wa.heap.size + 1) wa.heap.size (Pm.readL s).1 := ⟨⟨wa, sv, tv, gs, rfl, rfl, hL.by_ hbw, hgs⟩⟩
    have hFew := answer_few s (by rw [HF.out])
    have hNam := Pm.read_named s
    clear HP1 HP2 HC HF hL hgs hbw hz
    generalize (Pm.readL s).1 = sts at hM hFew hNam
    generalize wa.heap.size + 1 = X at hM hbox
    generalize wa.heap.size = base at hM
    have HM := hide hM
    have HFw := hide hFew
    have HNm := hide hNam
    have HBx := hide hbox
    clear hM hFew hNam hbox
    go_wp2_with fail
    refine (happenings_any _ _ l (HA.out.below HB1.out (Nat.le_refl _)) (by omega)).mono ?_
    rintro e w3 ⟨v3, rfl, hA3, hb3⟩
    have HA3 := hide hA3
    have HB3 := hide hb3
    clear hA3 hb3
    go_wp2_with fail
    refine (walkM_any w3 b X base sts v3 l HFw.out ((HB3.out.block b (Array.getElem?_eq_some_iff.1 HBx.out).1).trans HBx.out) (HM.out.below HB3.out) HA3.out (by omega)).mono ?_
    rintro e w4 ⟨g4, rfl, hT4, hb4⟩
    have HT4 := hide hT4
    have HB4 := hide (HB3.out.trans (hb4.mono HB3.out.size))
    clear hT4 hb4 HA3
    obtain ⟨d, hd⟩ : ∃ d, decide (n < 0 ∨ (l.length : Int) < n) = d := ⟨_, rfl⟩
    have HD := hide hd
    go_upto_region 10 with fail
    go_cut [56] (fun y wc => y = .bool d ∧ wc = w4)
    case first =>
      by_cases h1 : n < 0
      · go_wp2_with fail
        go_meet
        case rel => exact ⟨by rw [← HD.out]; simp [h1], rfl⟩
      · by_cases h2 : (l.length : Int) < n
        · go_wp2_with fail
          go_meet
          case rel => exact ⟨by rw [← HD.out]; simp [h2], rfl⟩
        · go_wp2_with fail
          go_meet
          case rel => exact ⟨by rw [← HD.out]; simp [h1, h2], rfl⟩
    case rest =>
      obtain ⟨rfl, rfl⟩ := hcut
      go_upto_if 56 with fail
      go_cut [2] (fun y wx => ∃ m : Nat, y = .int .i64 (m : Int) ∧ m ≤ l.length ∧ wx = wc)
      case first =>
        cases d
        · have h3 := of_decide_eq_false hd
          go_wp2_with fail
          go_meet
          case rel => exact ⟨n.toNat, by rw [Int.toNat_of_nonneg (by omega)], by omega, rfl⟩
        · go_wp2_with fail
          go_meet
          case rel => exact ⟨l.length, rfl, Nat.le_refl _, rfl⟩
      case rest =>
        clear hd HD
        obtain ⟨m, rfl, hm, rfl⟩ := hcut
        rename World => w4
        have HBw := hide (HB1.out.trans (HB4.out.mono HB1.out.size))
        have HMm := hide ((HA.out.below HBw.out (Nat.le_refl _)).take m hm)
        have hlm : (l.take m).length = m := by rw [List.length_take]; omega
        have hmc : m ≤ c := by omega
        go_wp2_with fail
        refine (happenings_any _ _ (l.take m) HMm.out (by rw [hlm]; omega)).mono ?_
        rintro e w5 ⟨v5, rfl, hA5, hb5⟩
        have HA5 := hide hA5
        have HB5 := hide (HB4.out.trans (hb5.mono HB4.out.size))
        have HT5 := hide hb5
        clear hA5 hb5
        go_wp2_with fail
        refine (walkM_any w5 b X base sts v5 (l.take m) HFw.out ((HB5.out.block b (Array.getElem?_eq_some_iff.1 HBx.out).1).trans HBx.out) (HM.out.below HB5.out) HA5.out (by rw [hlm]; omega)).mono ?_
        rintro e w6 ⟨g6, rfl, hT6, hb6⟩
        have HB6 := hide (HB5.out.trans (hb6.mono HB5.out.size))
        have HB46 := hide (HT5.out.trans (hb6.mono HT5.out.size))
        obtain ⟨xs, hx1, hx0, hx2, hx3, -⟩ := HT4.out
        obtain ⟨ys, hy1, hy0, hy2, hy3, -⟩ := hT6
        have hxl : xs.length = l.length := by rw [← List.length_map (f := fun x : Pm.Tk × Value => x.1), hx1, Pm.walkL_len]
        have hyl : ys.length = m := by rw [← List.length_map (f := fun x : Pm.Tk × Value => x.1), hy1, Pm.walkL_len, hlm]
        have HX2 := hide (hx2.below HB46.out)
        have HX3 := hide (fun x hx => (hx3 x hx).below HB46.out)
        have HY2 := hide hy2
        have HY3 := hide hy3
        have HX1 := hide hx1
        have HY1 := hide hy1
        rw [hlm]
        clear hb6 hx1 hx0 hx2 hx3 hy1 hy0 hy2 hy3 HMm HA5 HT5 HB46 HT4
        go_wp2_with fail
        go_loopg [15] l.length (fun gk i wr => ∃ k : Nat, k + gk = l.length ∧ i = .int .i64 (k : Int) ∧ Hid (Below w6.heap.size w6 wr))
        case atStart => exact ⟨0, by omega, rfl, Below.refl _ _⟩
        case round =>
          rename World => w0
          obtain ⟨k, hk, rfl, HB⟩ := hrel
          have hk1 : k ≤ l.length := by omega
          have E1 := hide hk
          clear hk
          by_cases hlt : k < l.length
          · have hkx : k < xs.length := by omega
            obtain ⟨d0, d1, d2⟩ := (HX2.out.below HB.out).cells k hkx
            have hxk := (HX3.out xs[k] (List.getElem_mem hkx)).below HB.out
            have HXK := hide hxk
            obtain ⟨xa, xn, xc, hxv⟩ := own_slice hxk
            rw [hxv] at d2 HXK
            go_upto_if 77 with fail
            go_cut [] (fun wc => Hid (Below w6.heap.size w6 wc))
            case first =>
              by_cases hkm : k < m
              · have hky : k < ys.length := by omega
                have hkm' : (k : Int) < (m : Int) := by omega
                obtain ⟨e0, e1, e2⟩ := (HY2.out.below HB.out).cells k hky
                have hyk := (HY3.out ys[k] (List.getElem_mem hky)).below HB.out
                rw [onw_same HX1.out HY1.out k hkx hky] at e0 e1 hyk
                have HYK := hide hyk
                obtain ⟨ya, yn, yc, hyv⟩ := own_slice hyk
                rw [hyv] at e2 HYK
                have hgx : g4 < w0.heap.size := World.block_lt_of_cell? w0 _ d0
                have hgy : g6 < w0.heap.size := World.block_lt_of_cell? w0 _ e0
                clear hyk hxk
                go_upto_region 19 with fail
                go_cut [16] (fun y wc => y = .bool true ∧ Hid (Below w0.heap.size w0 wc))
                case first =>
                  go_region_with (go_at_call 12; refine (texts_same _ _ _ xs[k].1.acts ?_ ?_).mono ?_; exact HYK.out.strs.below ((Below.refl _ _).drew) (Nat.le_refl _); exact HXK.out.strs.below ((Below.refl _ _).drew) (Nat.le_refl _); rintro e w7 ⟨rfl, hb7⟩; have HB7 := hide hb7; clear hb7)
                  all_goals
                    go_wp2_with fail
                    go_meet
                    case rel => exact ⟨rfl, (Below.refl _ _).drew.trans HB7.out⟩
                case rest =>
                  obtain ⟨rfl, HBc⟩ := hcut
                  have d0' := (HBc.out.cell (p := ⟨g4, k * 3, none⟩) hgx).trans d0
                  have d1' := (HBc.out.cell (p := ⟨g4, k * 3 + 1, none⟩) hgx).trans d1
                  have e0' := (HBc.out.cell (p := ⟨g6, k * 3, none⟩) hgy).trans e0
                  have e1' := (HBc.out.cell (p := ⟨g6, k * 3 + 1, none⟩) hgy).trans e1
                  go_wp2_with fail
                  go_quiet (fail)
                  go_wp2_with fail
                  go_meet
                  case rel => exact below_drewN (HB.out.trans (HBc.out.mono HB.out.size)) _
              · have hkm' : ¬ (k : Int) < (m : Int) := by omega
                go_wp2_with fail
                go_meet
                case rel => exact HB
            case rest =>
              have HB7 := hcut
              have hxk2 := HXK.out
              unfold NewS at hxk2
              obtain ⟨hxn, -, -⟩ := own_len hxk2
              clear hcut d0 d1 d2 hxk HXK hxk2
              obtain ⟨d0, d1, d2⟩ := (HX2.out.below HB7.out).cells k hkx
              rw [hxv] at d2
              have HNo := hide (fun h => onw_none HX1.out k hkx h)
              by_cases hk0 : k = 0
              · subst hk0
                generalize xs[0].1.rule = ru at d0 HNo
                by_cases hru : ru < 0
                · rw [HNo.out hru] at d1
                  unfold Pm.closedW at d1
                  go_wp2_with fail
                  go_roundg (l.length - (0 + 1))
                  case measure => have := E1.out; omega
                  case rel => exact ⟨0 + 1, by omega, by go_num, HB7⟩
                · go_wp2_with fail
                  go_roundg (l.length - (0 + 1))
                  case measure => have := E1.out; omega
                  case rel => exact ⟨0 + 1, by omega, by go_num, HB7⟩
              · obtain ⟨j, rfl⟩ : ∃ j, k = j + 1 := ⟨k - 1, by omega⟩
                have hjx : j < xs.length := by omega
                obtain ⟨-, p1, -⟩ := (HX2.out.below HB7.out).cells j hjx
                have hjk : (j : Int) + 1 - 1 = (j : Int) := by omega
                have hjp : (0 : Int) < (j : Int) + 1 := by omega
                rw [show ((j + 1 : Nat) : Int) = (j : Int) + 1 from rfl]
                cases hpc : Pm.eqB (Pm.stateW sts xs[j].1.row) Pm.closedW
                · unfold Pm.eqB at hpc
                  generalize Pm.stateW sts xs[j].1.row = pst at hpc p1
                  generalize xs[j + 1].1.rule = ru at d0 HNo
                  have hp2 : ¬ pst.toList = [99, 108, 111, 115, 101, 100] := fun e => by
                    rw [show Pm.closedW.toList = [99, 108, 111, 115, 101, 100] from by decide +kernel, e] at hpc
                    simp at hpc
                  clear hpc
                  by_cases hru : ru < 0
                  · rw [HNo.out hru] at d1
                    unfold Pm.closedW at d1
                    go_wp2_with fail
                    go_roundg (l.length - (j + 1 + 1))
                    case measure => have := E1.out; omega
                    case rel => exact ⟨j + 1 + 1, by omega, by go_num, HB7⟩
                  · go_wp2_with fail
                    go_roundg (l.length - (j + 1 + 1))
                    case measure => have := E1.out; omega
                    case rel => exact ⟨j + 1 + 1, by omega, by go_num, HB7⟩
                · obtain ⟨o1, o2, o3⟩ := onw_shut HNm.out HX1.out j hkx hpc
                  rw [Pm.eqB_eq hpc] at p1
                  rw [o1] at d0
                  rw [o2] at d1
                  rw [o3] at hxn
                  simp only [List.length_nil] at hxn
                  subst hxn
                  unfold Pm.closedW at d1 p1
                  go_wp2_with fail
                  go_roundg (l.length - (j + 1 + 1))
                  case measure => have := E1.out; omega
                  case rel => exact ⟨j + 1 + 1, by omega, by go_num, HB7⟩
          · go_wp2_with fail
            go_ret
            exact ⟨rfl, HB1.out.trans ((HB6.out.trans (HB.out.mono HB6.out.size)).mono HB1.out.size)⟩
  · obtain rfl := HP1.out h0
    have h1 : (f != 0) = true := by simpa using h0
    go_wp2_with fail
    refine (refCompile_any _ s).mono ?_
    rintro e w3 ⟨lv, rfl, hb2, -⟩
    have HB2 := hide (HB1.out.trans (hb2.mono HB1.out.size))
    rw [HF.out]
    clear hb2
    go_wp2_with fail
    go_ret
    exact ⟨rfl, HB2.out⟩
end Go.Proofs.YtcijookbgliglaaDoor
