import Derived.Test.YtcijookbgliglaaDoorWy
import Derived.Test.YtcijookbgliglaaDoorP
/- The walk over the document's lost. -/
namespace Go.Proofs.YtcijookbgliglaaDoor
open Go.RowKit

theorem Tryd.underlyingBools : Tryd.prog.underlying 95 = some (.slice 4) := by kernel_rfl
theorem Tryd.infoBool : (Tryd.prog.info? 4).map (fun i => (i.zero, i.size, i.bytes)) = some (some (.bool false), 1, 1) := by kernel_rfl

/-- A row of bools in a block. -/
def BoolsAt (w : World) (g : Nat) (bs : List Bool) : Prop := w.heap[g]? = some (.cells (bs.map Value.bool).toArray 4 (0, 0))
theorem BoolsAt.lt {w : World} {g : Nat} {bs : List Bool} (h : BoolsAt w g bs) : g < w.heap.size := (Array.getElem?_eq_some_iff.1 h).1
theorem BoolsAt.cell {w : World} {g : Nat} {bs : List Bool} (h : BoolsAt w g bs) {i : Nat} (hi : i < bs.length) : w.cell? ⟨g, i, none⟩ = some (.bool bs[i]) := by
  unfold BoolsAt at h
  simp [World.cell?, h, hi]
theorem BoolsAt.frozen {w : World} {g : Nat} {bs : List Bool} (h : BoolsAt w g bs) (i : Nat) : w.frozen? ⟨g, i, none⟩ = false := by
  unfold BoolsAt at h
  simp [World.frozen?, h]
theorem BoolsAt.set {w : World} {g : Nat} {bs : List Bool} (h : BoolsAt w g bs) (i : Nat) (b : Bool) : BoolsAt (w.setCell ⟨g, i, none⟩ (.bool b)) g (bs.set i b) := by
  unfold BoolsAt at h ⊢
  simp [World.setCell, Array.getElem?_modify, h, List.map_set]
theorem bools_made {w : World} {g n base : Nat} (h : w.ownsRow base 4 1 (.slice (some ⟨g, 0, none⟩) n n) n (madeCells (Value.bool false).cells (n * 1)).toList) : BoolsAt w g (List.replicate n false) := by
  rcases h.2 with ⟨h1, _⟩ | ⟨g', cap, cur, h1, _, h2, _, _, h3, h4⟩
  · simp at h1
  · simp at h1
    obtain ⟨rfl, rfl⟩ := h1
    unfold BoolsAt
    have h5 : cur = (madeCells (Value.bool false).cells (n * 1)) := by
      apply Array.toList_inj.1
      rw [← h4, List.take_of_length_le (by simp [h3])]
    have h6 : madeCells (Value.bool false).cells (n * 1) = (List.map Value.bool (List.replicate n false)).toArray := by
      apply Array.ext
      · simp [madeCells]
      · intro i h7 h8
        simp [madeCells, Value.cells, Nat.mod_one]
    rw [h2, h5, h6]

set_option maxRecDepth 100000 in
set_option maxHeartbeats 2000000 in
theorem lost_any (w : World) (base : Nat) (v : Value) (sts : List Pm.St) (hne : 0 < sts.length) (hsm : sts.length ≤ 301) (h : StatesR w base v sts) :
    Calls Tryd.prog 19 #[v] w fun e w' => e = .returned (.int .i64 (Pm.out (Pm.lostO sts))) ∧ Below w.heap.size w w' := by
  obtain ⟨a, cap, rfl, hM, -⟩ := h.at2
  obtain ⟨iB, hB, hB0, hB1, hB2⟩ := info_parts Tryd.infoBool
  have HS := hide h
  clear h
  go_enter Tryd.func19, Tryd.ntmps19
  go_wp2_with (at_make; go_must (refine wpList_make_full _ rfl _ _ 95 rfl w.heap.size 4 iB (.bool false) 1 Tryd.underlyingBools hB hB0 hB1 _ _ _ _ sts.length rfl rfl rfl rfl (by rw [hB2]; omega) (by unfold maxLen; omega) (Nat.le_refl _) ?_; intro w1 ho1 hg1; have hb1 := bools_made ho1; have f1 := hb1.frozen; have c1 := hb1.cell (i := 0) (by simpa using hne); have HBo := hide hb1; have HGr := hide hg1; clear ho1 hg1 hb1))
  have hB1 : Below w.heap.size w (w1.setCell ⟨w.heap.size, 0, none⟩ (.bool true)) := ((Below.refl _ _).grown HGr.out (Nat.le_refl _) (fun k e => by simp at e)).setCell (p := ⟨w.heap.size, 0, none⟩) (Nat.le_refl _) _
  have B1 := hide hB1
  have C1 := hide (HBo.out.set 0 true)
  clear hB1 HBo HGr f1 c1
  go_loopg [4] sts.length (fun gk i wr => ∃ (k : Nat) (bs : List Bool), k + gk = sts.length ∧ i = .int .i64 (k : Int) ∧ Hid (Below w.heap.size w wr) ∧ Hid (BoolsAt wr w.heap.size bs) ∧ Hid (Pm.Sound sts bs) ∧ Hid (Pm.Far sts k bs))
  case atStart => exact ⟨0, _, by omega, rfl, B1, C1, Pm.sound_start sts hne, Pm.far_start (Pm.sound_start sts hne)⟩
  case round =>
    clear B1 C1
    obtain ⟨k, bs, hk, rfl, HB, HC, HSo, HF⟩ := hrel
    have hk1 : k ≤ sts.length := by omega
    have E1 := hide hk
    clear hk
    by_cases hlt : k < sts.length
    · go_wp2
      go_loopg [5] sts.length (fun g2 j wr => ∃ (q : Nat) (cs : List Bool), q + g2 = sts.length ∧ j = .int .i64 (q : Int) ∧ Hid (Below w.heap.size w wr) ∧ Hid (BoolsAt wr w.heap.size cs) ∧ Hid (Pm.Sound sts cs) ∧ Hid (Pm.Le bs cs) ∧ Hid (Pm.ShutTo sts bs cs q))
      case atStart => exact ⟨0, bs, by omega, rfl, HB, HC, HSo, Pm.Le.refl _, fun i j hi => by omega⟩
      case round =>
        clear HB HC
        obtain ⟨q, cs, hq, rfl, HB, HC, HSc, HL, HT⟩ := hrel
        have hq1 : q ≤ sts.length := by omega
        have E2 := hide hq
        clear hq
        by_cases hql : q < sts.length
        · obtain ⟨g, b, n, c, rfl, hcap, -, -, -, hr⟩ := (HS.out.below HB.out).at3 q hql
          obtain ⟨rfl, hrm⟩ := hr.len
          clear hr
          go_wp2
          go_loopg [6] sts[q].rules.length (fun g3 y wr => ∃ (t : Nat) (ds : List Bool), t + g3 = sts[q].rules.length ∧ y = .int .i64 (t : Int) ∧ Hid (Below w.heap.size w wr) ∧ Hid (BoolsAt wr w.heap.size ds) ∧ Hid (Pm.Sound sts ds) ∧ Hid (Pm.Le cs ds) ∧ Hid (Pm.RowTo sts bs ds q t))
          case atStart => exact ⟨0, cs, by omega, rfl, HB, HC, HSc, Pm.Le.refl _, fun _ k j _ hk => by omega⟩
          case round =>
            clear HB HC
            obtain ⟨t, ds, ht, rfl, HB, HC, HSd, HL2, HRw⟩ := hrel
            have ht1 : t ≤ sts[q].rules.length := by omega
            have E3 := hide ht
            clear ht
            obtain ⟨b, n2, c, c0, c1, c2, hr⟩ := (HS.out.below HB.out).at4 q hql
            obtain ⟨rfl, hrm2⟩ := hr.len
            by_cases htl : t < sts[q].rules.length
            · obtain ⟨g2, b1, n1, d1, b2, n2, d2, rfl, hcap2, e0, e1, e2, e3, e4, e5, -⟩ := hr.at3 t htl
              clear hr
              have hql2 : q < ds.length := by rw [HSd.out.1]; exact hql
              have cq := HC.out.cell hql2
              have cf := HC.out.frozen
              have hgl : w.heap.size < wr.heap.size := HC.out.lt
              cases hd : ds[q]
              · rw [hd] at cq
                have HN := hide (Pm.rowTo_skip HRw.out hql htl (HL.out.trans HL2.out) (by rw [List.getElem?_eq_getElem hql2, hd]; simp))
                clear hd
                go_wp2_with (go_at_call 24; refine (where_any _ base _ sts _ (HS.out.below HB.out)).mono ?_; rintro e w' ⟨rfl, rfl⟩)
                go_roundg (sts[q].rules.length - (t + 1))
                case measure => have := E3.out; omega
                case rel => exact ⟨t + 1, ds, by omega, by go_num, HB, HC, HSd, HL2, HN⟩
              · rw [hd] at cq
                by_cases hw0 : 0 ≤ Pm.whereI sts sts[q].rules[t].goal
                · obtain ⟨x, hx⟩ : ∃ x : Nat, Pm.whereI sts sts[q].rules[t].goal = (x : Int) := ⟨(Pm.whereI sts sts[q].rules[t].goal).toNat, by omega⟩
                  have hxl : x < sts.length := by have := Pm.where_bd sts sts[q].rules[t].goal; omega
                  have hxd : x < ds.length := by rw [HSd.out.1]; exact hxl
                  have HX := hide hx
                  have cx := HC.out.cell hxd
                  have HN := hide (Pm.rowTo_set HRw.out hql htl hx hxd)
                  have HS2 := hide (HSd.out.set (i := q) (j := x) (by rw [List.getElem?_eq_getElem hql2, hd]) (Pm.edge_of hql htl hx))
                  clear hx hd hw0
                  go_wp2_with (go_at_call 24; refine (where_any _ base _ sts _ (HS.out.below HB.out)).mono ?_; rintro e w' ⟨rfl, rfl⟩; rw [HX.out])
                  go_roundg (sts[q].rules.length - (t + 1))
                  case measure => have := E3.out; omega
                  case rel => exact ⟨t + 1, _, by omega, by go_num, HB.out.setCell (p := ⟨w.heap.size, x, none⟩) (Nat.le_refl _) _, HC.out.set x true, HS2, HL2.out.trans (Pm.Le.set ds x), HN⟩
                · have HN := hide (Pm.rowTo_skip HRw.out hql htl (HL.out.trans HL2.out) (fun h => hw0 h.2))
                  clear hd
                  go_wp2_with (go_at_call 24; refine (where_any _ base _ sts _ (HS.out.below HB.out)).mono ?_; rintro e w' ⟨rfl, rfl⟩)
                  go_roundg (sts[q].rules.length - (t + 1))
                  case measure => have := E3.out; omega
                  case rel => exact ⟨t + 1, ds, by omega, by go_num, HB, HC, HSd, HL2, HN⟩
            · have hte : t = sts[q].rules.length := by omega
              have HN := hide (Pm.ShutTo.step (HT.out.mono HL2.out) hql (by rw [← hte]; exact HRw.out))
              clear hte hr
              go_wp2
              go_roundg (sts.length - (q + 1))
              case measure => have := E2.out; omega
              case rel => exact ⟨q + 1, ds, by omega, by go_num, HB, HC, HSd, HL.out.trans HL2.out, HN⟩
        · have hqe : q = sts.length := by omega
          have HN := hide (Pm.far_step HF.out HSo.out HSc.out HL.out (Pm.shut_of (by rw [← hqe]; exact HT.out)))
          clear hqe
          go_wp2
          go_roundg (sts.length - (k + 1))
          case measure => have := E1.out; omega
          case rel => exact ⟨k + 1, cs, by omega, by go_num, HB, HC, HSc, HN⟩
    · have hke : k = sts.length := by omega
      have HShut := hide (Pm.far_end (sts := sts) (bs := bs) (by rw [← hke]; exact HF.out) HSo.out.1)
      clear hke
      go_wp2
      go_loopg [8] sts.length (fun g2 j wr => ∃ q : Nat, q + g2 = sts.length ∧ j = .int .i64 (q : Int) ∧ Hid (Below w.heap.size w wr) ∧ Hid (BoolsAt wr w.heap.size bs) ∧ Hid (Pm.seekAt (Pm.lostF sts) sts q = Pm.lostO sts))
      case atStart => exact ⟨0, by omega, rfl, HB, HC, rfl⟩
      case round =>
        clear HB HC
        obtain ⟨q, hq, rfl, HB, HC, HR⟩ := hrel
        have hq1 : q ≤ sts.length := by omega
        have E2 := hide hq
        clear hq
        by_cases hql : q < sts.length
        · have hqb : q < bs.length := by rw [HSo.out.1]; exact hql
          have cq := HC.out.cell hqb
          cases hd : bs[q]
          · rw [hd] at cq
            have HN := hide (Pm.seekAt_yes (f := Pm.lostF sts) hql (Pm.lostF_yes HSo.out HShut.out hqb hd _))
            obtain ⟨g, b, n, c, rfl, hcap, c0, c1, c2, -⟩ := (HS.out.below HB.out).at3 q hql
            clear hd
            go_wp2
            go_ret
            exact ⟨ret_int (by rw [← HR.out, HN.out]; rfl), HB.out⟩
          · rw [hd] at cq
            have HN := hide (Pm.seekAt_no (f := Pm.lostF sts) hql (Pm.lostF_no HSo.out HShut.out hqb hd _))
            clear hd
            go_wp2
            go_roundg (sts.length - (q + 1))
            case measure => have := E2.out; omega
            case rel => exact ⟨q + 1, by omega, by go_num, HB, HC, HN.out.symm.trans HR.out⟩
        · have HN := hide (Pm.seekAt_end (Pm.lostF sts) sts q (by omega))
          go_wp2
          go_ret
          exact ⟨ret_int (by rw [← HR.out, HN.out]; rfl), HB.out⟩
end Go.Proofs.YtcijookbgliglaaDoor
