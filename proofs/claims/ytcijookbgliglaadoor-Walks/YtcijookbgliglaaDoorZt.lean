import Derived.Test.YtcijookbgliglaaDoorZF
/- The walk over the program's layOut. -/
namespace Go.Proofs.YtcijookbgliglaaDoor
open Go.RowKit Go.Maps

theorem RowC.base {w : World} {sts : List Pm.St} {base base' g n : Nat} {ess : Nat → List Se} (h : RowC w base sts g n ess) (hb : base' ≤ base) : RowC w base' sts g n ess := by
  obtain ⟨vs, a1, a2, a3, a4, a5⟩ := h
  refine ⟨vs, a1, by omega, a3, fun i hi => ?_, a5⟩
  obtain ⟨ys, y1, y2, y3⟩ := a4 i hi
  exact ⟨ys, y1, ownsRow_base y2 hb, fun x hx => ⟨ownsRow_base (y3 x hx).1 hb, ownsRow_base (y3 x hx).2 hb⟩⟩
theorem essOf_at (sts : List Pm.St) (k : Nat) (h : k < sts.length) : essOf sts k = rowTo (colsTo sts) sts[k].rules sts[k].rules.length := by
  unfold essOf; rw [List.getElem?_eq_getElem h]

set_option maxRecDepth 100000 in
set_option maxHeartbeats 8000000 in
theorem layOut_any (w : World) (base : Nat) (a : Option Addr) (n c : Nat) (sts : List Pm.St) (hsl : sts.length ≤ 301) (htot : total sts ≤ 301) (hfr : ∀ st ∈ sts, ∀ r ∈ st.rules, FewR r) (h : StatesC w base (.slice a n c) sts) :
    Calls Tryd.prog 28 #[.slice a n c] w fun e w' => e = .returned (.pointer (some ⟨w.heap.size + 1, 0, none⟩)) ∧ ∃ sv tv gs, LayIn w w' sts sv (sts.map (·.name)) (colsTo sts) tv gs (essOf sts) ∧ gs.length = sts.length := by
  obtain ⟨rfl, hM⟩ := h.len
  obtain ⟨iS, hS, hS0, hS1, hS2⟩ := info_parts Tryd.infoString
  obtain ⟨iT, hT, hT0, hT1, hT2⟩ := info_parts Tryd.infoTable
  have hmm := @run_makeMap Tryd.prog
  have HS := hide h
  have HF := hide hfr
  have HJ := hide (LayIn.start w sts (essOf sts))
  clear h hfr
  go_enter Tryd.func28, Tryd.ntmps28
  go_wp2
  go_loopg [15] sts.length (fun gk i wr => ∃ (k : Nat) (sa : Option Addr) (sn sc : Nat), k + gk = sts.length ∧ i = .int .i64 (k : Int) ∧ Hid (LayIn w wr sts (.slice sa sn sc) ((sts.take k).map (·.name)) (colsTo (sts.take k)) (.slice none 0 0) [] (essOf sts)))
  case atStart => exact ⟨0, _, _, _, by omega, rfl, HJ⟩
  case round =>
    clear hmm HJ
    obtain ⟨k, sa, sn, sc, hk, rfl, J⟩ := hrel
    have E1 := hide hk
    clear hk
    have hz := J.out.size
    by_cases hlt : k < sts.length
    · obtain ⟨g, rfl, hgl, hcap⟩ := HS.out.isAt k hlt
      obtain ⟨b, n', c1, c0, c2, c3, c4, hr⟩ := HS.out.at4 k hlt
      obtain ⟨rfl, hrm⟩ := hr.len
      have HR := hide hr
      replace c0 := (J.out.below.cell (p := ⟨g, k * 4, none⟩) hgl).trans c0
      replace c2 := (J.out.below.cell (p := ⟨g, k * 4 + 1, none⟩) hgl).trans c2
      replace c3 := (J.out.below.cell (p := ⟨g, k * 4 + 2, none⟩) hgl).trans c3
      replace c4 := (J.out.below.cell (p := ⟨g, k * 4 + 3, none⟩) hgl).trans c4
      have hgw : g < wr.heap.size := by have := J.out.below.size; omega
      have JA := hide (J.out.alloc (.cells #[.int .i64 (sts[k].at_ : Int), .int .i64 (sts[k].nameAt : Int), .string sts[k].name, .slice b sts[k].rules.length c1] 124))
      have htk := total_take sts k hlt
      have hck := colsTo_len k (sts.take k) (by rw [List.length_take]; omega)
      clear hr
      obtain ⟨x0, x1, x2, xf⟩ := blk3 J.out.box
      have hlk : ((sts.take k).map (·.name)).length = k := by rw [List.length_map, List.length_take]; omega
      have hz2 : w.heap.size + 1 < wr.heap.size + 1 := by omega
      have hz3 : ¬ w.heap.size + 1 = wr.heap.size + 1 := by omega
      have hz4 : ¬ w.heap.size = wr.heap.size := by omega
      go_upto_region 5 with fail
      go_cut [] (fun wc => ∃ (sa' : Option Addr) (sn' sc' : Nat), Hid (LayIn w wc sts (.slice sa' sn' sc') ((sts.take (k + 1)).map (·.name)) (colsTo (sts.take k)) (.slice none 0 0) [] (essOf sts)) ∧ Hid (wc.heap[wr.heap.size]? = some (.cells #[.int .i64 (sts[k].at_ : Int), .int .i64 (sts[k].nameAt : Int), .string sts[k].name, .slice b sts[k].rules.length c1] 124 (0, 0)) ∧ wr.heap.size < wc.heap.size))
      case first =>
        go_wp2_with fail
        go_region_law ((have JB := ((JA.out.by_ (Below.refl _ _).drew).alloc (.cells #[.string sts[k].name] 9)); refine step_append_own (by rfl) _ _ 33 (by rfl) w.heap.size 9 iS (.string ByteArray.empty) 1 16 Tryd.underlyingStrings hS hS0 hS1 hS2 rfl (by decide) _ _ _ (by rfl) JB.names ⟨wr.heap.size + 1, 0, none⟩ 1 1 [.string sts[k].name] (by rfl) rfl (cell_one_new' _ _ _ _ (by simp)) one1 (by unfold maxLen; omega) (by omega) (by have := JB.below.size; exact this) ?_; intro v7 w7 ho7 hg7 _; obtain ⟨a7, l7, c7, rfl⟩ := own_slice ho7; obtain ⟨f3, ff⟩ := JB.storeN hg7; have J7 := hide (JB.addName hg7 ho7); have HK7 := hide ((hg7.block wr.heap.size (by simp; omega) (fun e' => own_ne JB.names (k := wr.heap.size) (cs := #[.int .i64 (sts[k].at_ : Int), .int .i64 (sts[k].nameAt : Int), .string sts[k].name, .slice b sts[k].rules.length c1]) (T := 124) (fr := (0, 0)) ((Below.heap_alloc _ _ _ (by simp)).trans (heap_alloc_new wr (.cells #[.int .i64 (sts[k].at_ : Int), .int .i64 (sts[k].nameAt : Int), .string sts[k].name, .slice b sts[k].rules.length c1] 124))) (by decide) e'.symm)).trans ((Below.heap_alloc _ _ _ (by simp)).trans (heap_alloc_new wr (.cells #[.int .i64 (sts[k].at_ : Int), .int .i64 (sts[k].nameAt : Int), .string sts[k].name, .slice b sts[k].rules.length c1] 124)))); have hz7 := hg7.size; clear ho7 hg7 JB))
        all_goals
          go_wp2_with fail
          go_meet
          case rel =>
            refine ⟨a7, l7, c7, ?_, ?_⟩
            · have := J7.out
              rw [List.take_succ_eq_append_getElem hlt, List.map_append]
              exact this
            · show _ ∧ _
              refine ⟨(Below.heap_setCell _ _ _ _ (by simp; omega)).trans HK7.out, ?_⟩
              simp at hz7 ⊢
              omega
      case rest =>
        clear JA x0 x1 x2 xf c0 c2 c3 c4 hz hz2 hz3 hz4 J hlk
        obtain ⟨sa', sn', sc', J, HK⟩ := hcut
        obtain ⟨y0, y1, y2, y3, -⟩ := blk4 HK.out.1
        have hkl := HK.out.2
        go_wp2_with fail
        go_loopg [34] sts[k].rules.length (fun g2 j wi => ∃ q : Nat, q + g2 = sts[k].rules.length ∧ j = .int .i64 (q : Int) ∧ Hid (LayIn w wi sts (.slice sa' sn' sc') ((sts.take (k + 1)).map (·.name)) (evs (sts[k].rules.take q) (colsTo (sts.take k))) (.slice none 0 0) [] (essOf sts)))
        case atStart => exact ⟨0, by omega, rfl, J⟩
        case round =>
          clear J HK y0 y1 y2 y3 hkl
          obtain ⟨q, hq, rfl, J⟩ := hrel
          have E2 := hide hq
          clear hq
          have hz := J.out.size
          by_cases hql : q < sts[k].rules.length
          · have hrr := HR.out.below J.out.below
            obtain ⟨g2, rfl, hg2, hcap2⟩ := hrr.isAt q hql
            obtain ⟨b1, m1, d1, b2, m2, d2, e0, e1, e2, e3, e4, e5, e6, -, -⟩ := hrr.at4 q hql
            have hfw := HF.out sts[k] (List.getElem_mem hlt) sts[k].rules[q] (List.getElem_mem hql)
            have JA := hide (J.out.alloc (.cells #[.int .i64 (sts[k].rules[q].at_ : Int), .int .i64 (sts[k].rules[q].eventAt : Int), .string sts[k].rules[q].event, .slice b1 m1 d1, .int .i64 (sts[k].rules[q].to_ : Int), .string sts[k].rules[q].goal, .slice b2 m2 d2] 128))
            have hel := evs_len (sts[k].rules.take q) (colsTo (sts.take k))
            rw [List.length_take] at hel
            clear hrr
            go_wp2_with fail
            refine (addCol_any _ _ w.heap.size _ sts[k].rules[q].event _ _ _ _ _ _ JA.out.box JA.out.cols_ (by omega) hfw.2.2).mono ?_
            rintro e w2 ⟨rfl, hc2, hg2'⟩
            have J2 := hide (JA.out.setCols hg2' hc2)
            clear hc2 hg2' e0 e1 e2 e3 e4 e5 e6
            go_wp2
            go_roundg (sts[k].rules.length - (q + 1))
            case measure => have := E2.out; omega
            case rel =>
              refine ⟨q + 1, by omega, by go_num, ?_⟩
              rw [List.take_succ_eq_append_getElem hql, evs_snoc]
              exact J2
          · have hT1 : sts[k].rules.take q = sts[k].rules := List.take_of_length_le (by omega)
            rw [hT1] at J
            go_wp2
            go_roundg (sts.length - (k + 1))
            case measure => have := E1.out; omega
            case rel =>
              refine ⟨k + 1, sa', sn', sc', by omega, by go_num, ?_⟩
              rw [show colsTo (sts.take (k + 1)) = evs sts[k].rules (colsTo (sts.take k)) from by rw [List.take_succ_eq_append_getElem hlt, colsTo_snoc]]
              exact J
    · have hT' : sts.take k = sts := List.take_of_length_le (by omega)
      rw [hT'] at J
      have hcl := colsTo_len _ sts rfl
      obtain ⟨x0, x1, x2, xf⟩ := blk3 J.out.box
      go_wp2
      go_loopg [47] sts.length (fun g3 j wi => ∃ (q : Nat) (ta : Option Addr) (tn tc : Nat) (gs : List Nat), q + g3 = sts.length ∧ gs.length = q ∧ j = .int .i64 (q : Int) ∧ Hid (LayIn w wi sts (.slice sa sn sc) (sts.map (·.name)) (colsTo sts) (.slice ta tn tc) gs (essOf sts)))
      case atStart => exact ⟨0, _, _, _, [], by omega, rfl, rfl, J⟩
      case round =>
        clear J x0 x1 x2 xf hz
        obtain ⟨q, ta, tn, tc, gs, hq, hgq, rfl, J⟩ := hrel
        have E2 := hide hq
        clear hq
        have hz := J.out.size
        by_cases hql : q < sts.length
        · obtain ⟨g, rfl, hgl, hcap⟩ := HS.out.isAt q hql
          obtain ⟨b, n', c1, c0, c2, c3, c4, hr⟩ := HS.out.at4 q hql
          obtain ⟨rfl, hrm⟩ := hr.len
          have htk := total_take sts q hql
          replace c0 := (J.out.below.cell (p := ⟨g, q * 4, none⟩) hgl).trans c0
          replace c2 := (J.out.below.cell (p := ⟨g, q * 4 + 1, none⟩) hgl).trans c2
          replace c3 := (J.out.below.cell (p := ⟨g, q * 4 + 2, none⟩) hgl).trans c3
          replace c4 := (J.out.below.cell (p := ⟨g, q * 4 + 3, none⟩) hgl).trans c4
          have hgw : g < wr.heap.size := by have := J.out.below.size; omega
          have JA := hide (((J.out.alloc (.cells #[.int .i64 (sts[q].at_ : Int), .int .i64 (sts[q].nameAt : Int), .string sts[q].name, .slice b sts[q].rules.length c1] 124))).by_ (Below.refl _ _).drew)
          have HRw := hide (hr.below JA.out.below)
          have HSw := hide (HS.out.below JA.out.below)
          have HFw := hide (show ∀ r ∈ sts[q].rules, FewR r ∧ r.event ∈ colsTo sts from fun r hr' => ⟨HF.out sts[q] (List.getElem_mem hql) r hr', foldl_self sts [] sts[q] r (List.getElem_mem hql) hr'⟩)
          clear hr
          obtain ⟨x0, x1, x2, xf⟩ := blk3 J.out.box
          obtain ⟨u0, u1, u2, u3, -⟩ := blk4 (heap_alloc_new wr (.cells #[.int .i64 (sts[q].at_ : Int), .int .i64 (sts[q].nameAt : Int), .string sts[q].name, .slice b sts[q].rules.length c1] 124))
          have hz2 : w.heap.size + 1 < wr.heap.size + 1 := by omega
          have hz3 : ¬ w.heap.size + 1 = wr.heap.size + 1 := by omega
          have hz4 : ¬ w.heap.size = wr.heap.size := by omega
          have hz5 : w.heap.size ≤ (wr.alloc (.cells #[.int .i64 (sts[q].at_ : Int), .int .i64 (sts[q].nameAt : Int), .string sts[q].name, .slice b sts[q].rules.length c1] 124)).drew.heap.size := JA.out.below.size
          go_wp2_with fail
          go_region_law ((first
            | (have JB := J5.out.alloc (.cells #[.slice (some ⟨gx, 0, none⟩) (colsTo sts).length (colsTo sts).length] 130); refine step_append_own (by rfl) _ _ 106 (by rfl) w.heap.size 130 iT (.slice none 0 0) 1 24 Tryd.underlyingTable hT hT0 hT1 hT2 rfl (by decide) _ _ _ (by rfl) JB.table ⟨w5.heap.size, 0, none⟩ 1 1 [.slice (some ⟨gx, 0, none⟩) (colsTo sts).length (colsTo sts).length] (by rfl) rfl (cell_one_new' _ _ _ _ rfl) one1T (by unfold maxLen; omega) (by omega) (by have := JB.below.size; exact this) ?_; intro v7 w7 ho7 hg7 _; obtain ⟨a7, l7, c7, rfl⟩ := own_slice ho7; obtain ⟨f3, ff⟩ := JB.storeT hg7; have J7 := hide (JB.addRow (g := gx) (by rw [hgq, essOf_at sts q hql]; exact HRW.out.same (fun j _ h2 => Below.heap_alloc _ _ _ h2)) hg7 ho7); clear ho7 hg7 JB)
            | (go_wp2_with (go_at_call 50; refine (row_any _ base (w.heap.size + 1) w.heap.size (colsTo sts) sts[q] sts _ _ _ _ _ _ _ _ _ _ _ _ JA.out.box JA.out.cols_ (by omega) (by omega) HFw.out HRw.out HSw.out).mono ?_; rintro e w5 ⟨gx, rfl, hgx, hrow, hb5⟩; have J5 := hide (JA.out.by_ hb5); have HRW := hide (hrow.base hz5); obtain ⟨z0, z1, z2, zf⟩ := blk3 J5.out.box; have hz6 := J5.out.size; clear hgx hrow hb5))))
          all_goals
            go_wp2_with fail
            go_roundg (sts.length - (q + 1))
            case measure => have := E2.out; omega
            case rel => exact ⟨q + 1, _, _, _, gs ++ [gx], by omega, by simp [hgq], by go_num, J7⟩
        · have hqe : q = sts.length := by have := E2.out; omega
          go_wp2
          go_ret
          exact ⟨rfl, _, _, gs, J.out, by omega⟩
end Go.Proofs.YtcijookbgliglaaDoor
