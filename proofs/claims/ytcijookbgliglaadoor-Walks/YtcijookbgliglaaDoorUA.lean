import Derived.Test.YtcijookbgliglaaDoorTa
import Derived.Test.YtcijookbgliglaaDoorWr
import Derived.Test.YtcijookbgliglaaDoorPq
import Derived.Test.YtcijookbgliglaaDoorVf
/- The walk over the document's taken. -/
namespace Go.Proofs.YtcijookbgliglaaDoor
open Go.RowKit

theorem has_succ (l : List ByteArray) (x : ByteArray) (k : Nat) (h : k < l.length) : Pm.has (l.take (k + 1)) x = (Pm.has (l.take k) x || Pm.eqB l[k] x) := by
  unfold Pm.has
  rw [List.take_succ_eq_append_getElem h, List.any_append]
  simp

set_option maxRecDepth 100000 in
set_option maxHeartbeats 2000000 in
theorem taken_any (w : World) (base : Nat) (r : Pm.Rl) (a1 b1 : Option Addr) (n1 c1 m1 d1 : Nat) (ev : ByteArray) (v : Value) (hs : List ByteArray) (h1 : GuardsR w base (.slice a1 n1 c1) r.guards) (h2 : StrsA w v hs) :
    Calls Tryd.prog 23 #[.agg #[.string r.event, .slice a1 n1 c1, .string r.goal, .slice b1 m1 d1, .int .i64 (r.at_ : Int), .int .i64 (r.to_ : Int)], .agg #[.string ev, v]] w fun e w' => e = .returned (.bool (Pm.fits hs ev r)) ∧ Below w.heap.size w w' := by
  obtain ⟨rfl, hM1⟩ := h1.len
  have H1 := hide h1
  have H2 := hide h2
  obtain ⟨ha, hc, rfl, hcl, hcm, -⟩ := h2
  clear h1
  cases heq : Pm.eqB r.event ev
  · have HN := hide (show Pm.fits hs ev r = false by unfold Pm.fits; rw [heq]; rfl)
    unfold Pm.eqB at heq
    have heq2 : ¬ r.event.toList = ev.toList := by simpa using heq
    go_enter Tryd.func23, Tryd.ntmps23
    go_wp2
    go_ret
    exact ⟨ret_bool HN.out.symm, two_below _ _ _⟩
  · have HN := hide (show Pm.fits hs ev r = Pm.allMet hs r by unfold Pm.fits; rw [heq]; rfl)
    unfold Pm.eqB at heq
    have heq2 : r.event.toList = ev.toList := by simpa using heq
    go_enter Tryd.func23, Tryd.ntmps23
    go_wp2
    go_loopg [5] r.guards.length (fun gk i wr => ∃ k : Nat, k + gk = r.guards.length ∧ i = .int .i64 (k : Int) ∧ Hid (∃ nd, wr = ((w.alloc (.cells #[.string r.event, .slice a1 r.guards.length c1, .string r.goal, .slice b1 m1 d1, .int .i64 (r.at_ : Int), .int .i64 (r.to_ : Int)] 72)).alloc (.cells #[.string ev, .slice ha hs.length hc] 36)).drewN nd) ∧ Hid ((r.guards.take k).all (Pm.met hs) = true))
    case atStart => exact ⟨0, by omega, rfl, ⟨0, rfl⟩, by simp [Hid]⟩
    case round =>
      obtain ⟨k, hk, rfl, HW, HR⟩ := hrel
      have hk1 : k ≤ r.guards.length := by omega
      have E1 := hide hk
      clear hk
      obtain ⟨nd, rfl⟩ := HW.out
      clear HW
      by_cases hlt : k < r.guards.length
      · go_wp2
        go_loopg [6, 7] hs.length (fun g2 okv y wr => ∃ t : Nat, t + g2 = hs.length ∧ y = .int .i64 (t : Int) ∧ okv = .bool (Pm.has (hs.take t) r.guards[k].word) ∧ Hid (∃ nd, wr = ((w.alloc (.cells #[.string r.event, .slice a1 r.guards.length c1, .string r.goal, .slice b1 m1 d1, .int .i64 (r.at_ : Int), .int .i64 (r.to_ : Int)] 72)).alloc (.cells #[.string ev, .slice ha hs.length hc] 36)).drewN nd))
        case atStart => exact ⟨0, by omega, rfl, by simp [Pm.has], ⟨nd, rfl⟩⟩
        case round =>
          obtain ⟨t, ht, rfl, rfl, HW⟩ := hrel
          have ht1 : t ≤ hs.length := by omega
          have E2 := hide ht
          clear ht
          obtain ⟨nd2, rfl⟩ := HW.out
          clear HW
          generalize hok : Pm.has (hs.take t) r.guards[k].word = okb
          have HO := hide hok
          clear hok
          obtain ⟨ga, rfl, hca, f0, f1, f2⟩ := H1.out.at3 k hlt
          have hga : ga < w.heap.size := World.block_lt_of_cell? w _ f0
          by_cases htl : t < hs.length
          · obtain ⟨a', c', hv, _, _, hcell⟩ := H2.out
            simp only [Value.slice.injEq] at hv
            obtain ⟨rfl, _, rfl⟩ := hv
            obtain ⟨gb, go_, rfl, i0⟩ := hcell t htl
            clear hcell
            have hgb : gb < w.heap.size := World.block_lt_of_cell? w _ i0
            have HQ0 := hide (has_succ hs r.guards[k].word t htl)
            cases okb
            · cases heq3 : Pm.eqB hs[t] r.guards[k].word
              · have HQ := hide (show Pm.has (hs.take (t + 1)) r.guards[k].word = false by rw [HQ0.out, HO.out, heq3]; rfl)
                unfold Pm.eqB at heq3
                go_wp2
                go_quiet (fail)
                go_wp2
                go_roundg (hs.length - (t + 1))
                case measure => have := E2.out; omega
                case rel => exact ⟨t + 1, by omega, by go_num, by rw [HQ.out], ⟨_, rfl⟩⟩
              · have HQ := hide (show Pm.has (hs.take (t + 1)) r.guards[k].word = true by rw [HQ0.out, HO.out, heq3]; rfl)
                unfold Pm.eqB at heq3
                go_wp2
                go_quiet (fail)
                go_wp2
                go_roundg (hs.length - (t + 1))
                case measure => have := E2.out; omega
                case rel => exact ⟨t + 1, by omega, by go_num, by rw [HQ.out], ⟨_, rfl⟩⟩
            · have HQ := hide (show Pm.has (hs.take (t + 1)) r.guards[k].word = true by rw [HQ0.out, HO.out]; rfl)
              go_wp2
              go_quiet (fail)
              go_wp2
              go_roundg (hs.length - (t + 1))
              case measure => have := E2.out; omega
              case rel => exact ⟨t + 1, by omega, by go_num, by rw [HQ.out], ⟨_, rfl⟩⟩
          · have HA := hide (show Pm.met hs r.guards[k] = (okb != r.guards[k].not) by unfold Pm.met; rw [← HO.out, List.take_of_length_le (by omega)])
            generalize hnt : r.guards[k].not = nt at f1 HA
            have HNT := hide hnt
            clear hnt
            by_cases hb : okb = nt
            · subst hb
              cases okb
              all_goals
                go_wp2
                go_ret
                refine ⟨ret_bool ?_, below_drewN (two_below _ _ _) _⟩
                rw [HN.out]
                unfold Pm.allMet
                symm
                rw [List.all_eq_false]
                exact ⟨r.guards[k], List.getElem_mem hlt, by rw [HA.out]; simp⟩
            · have HA2 := hide (show Pm.met hs r.guards[k] = true by rw [HA.out]; cases okb <;> cases nt <;> simp_all)
              cases okb <;> cases nt
              · exact absurd rfl hb
              · go_wp2
                go_roundg (r.guards.length - (k + 1))
                case measure => have := E1.out; omega
                case rel => exact ⟨k + 1, by omega, by go_num, ⟨_, rfl⟩, by show _ = _; rw [Pm.take_all_succ _ _ _ hlt, HR.out, HA2.out]; rfl⟩
              · go_wp2
                go_roundg (r.guards.length - (k + 1))
                case measure => have := E1.out; omega
                case rel => exact ⟨k + 1, by omega, by go_num, ⟨_, rfl⟩, by show _ = _; rw [Pm.take_all_succ _ _ _ hlt, HR.out, HA2.out]; rfl⟩
              · exact absurd rfl hb
      · go_wp2
        go_ret
        exact ⟨ret_bool (by rw [HN.out]; unfold Pm.allMet; rw [List.take_of_length_le (by omega)] at HR; exact HR.out.symm), below_drewN (two_below _ _ _) _⟩
end Go.Proofs.YtcijookbgliglaaDoor

/- An append whose elements are wider than those that came in: how far a row may grow. -/
namespace Go.Proofs.YtcijookbgliglaaDoor
open Go.RowKit

theorem growBy_le (N : Nat) : ∀ (r c : Nat), Builtin.growBy N r c ≤ max c (N + (N + 768) / 4)
  | 0, c => by unfold Builtin.growBy; omega
  | r + 1, c => by
    unfold Builtin.growBy
    split
    · omega
    · have := growBy_le N r (c + (c + 768) / 4)
      omega
theorem nextcap_le {need old : Nat} (h : old < need) (h0 : 512 ≤ need) : Builtin.nextslicecap need old ≤ need + (need + 768) / 4 := by
  unfold Builtin.nextslicecap
  split
  · omega
  · split
    · omega
    · have := growBy_le need 4 old
      omega

/-- One more element of 48 bytes, where the row has fewer than 2^47 / 40 of them. -/
theorem run_one48 {P : Program} (w : World) (base : Nat) (t ty e : TypeId) (i : TypeInfo) (z : Value) (size : Nat) (ht : P.underlying t = some (.slice e)) (hi : P.info? e = some i) (hz : i.zero = some z)
    (hsize : i.size = size) (hby : i.bytes = 48) (hzs : z.cells.size = size) (hsz : 0 < size) (v : Value) (n : Nat) (xs : List Value) (hown : w.ownsRow base e size v n xs)
    (a : Addr) (c : Nat) (news : List Value) (hl : news.length = 1 * size) (hnews : ∀ j u, news[j]? = some u → w.cell? (a.add j) = some u) (h1 : ∀ u ∈ news, u.oneCell' = true)
    (hn : (n + 1) * 40 ≤ 140737488355328) (hbase : base ≤ w.heap.size) :
    ∃ v' w', (Builtin.append_ #[t, t] ty #[v, .slice (some a) 1 c]).run P w = .ok v' w' ∧ w'.ownsRow base e size v' (n + 1) (xs ++ news) ∧ w.grownBy w' v.ownBlock := by
  by_cases hs : (n + 1) * 48 ≤ 140737488355328
  · obtain ⟨v', w', r1, r2, r3, -⟩ := run_append_own (P := P) w base t ty e i z size 48 ht hi hz hsize hby hzs hsz v n xs hown a 1 c news hl hnews h1 (by unfold maxLen; omega) hs hbase
    exact ⟨v', w', r1, r2, r3⟩
  · subst hsize
    have hlen : (xs ++ news).length = (n + 1) * i.size := by rw [List.length_append, hown.1, hl, Nat.add_mul]
    rcases hown.2 with ⟨_, rfl⟩ | ⟨g, cap, cur, rfl, hb, hg, hnc, hcm, hcs, htk⟩
    · omega
    · by_cases hr : n + 1 ≤ cap
      · have hfit : n * i.size + news.length ≤ cur.size := by
          rw [hl, hcs, ← Nat.add_mul]; exact Nat.mul_le_mul_right _ hr
        refine ⟨_, _, run_append_room (P := P) w t ty e i ht hi g n cap cur hg a 1 c news hl hnews h1 hr hfit, ⟨hlen, .inr ⟨g, cap, _, rfl, hb, setRow_heap w g cur _ e _ hg, hr, hcm, ?_, ?_⟩⟩, ⟨rfl, rfl, rfl, by simp, fun k _ hk => setRow_other w g k _ (fun h => hk (by rw [h]; rfl))⟩⟩
        · simp only [List.size_toArray, List.length_append, List.length_take, List.length_drop, Array.length_toList]
          omega
        · rw [htk, ← hlen]; exact List.take_left
      · have hge := grownCap_ge w (n + 1) cap e
        have hlm := grownCap_le_maxLen w (n + 1) cap e (by unfold maxLen; omega)
        have hcap : Builtin.nextslicecap (n + 1) cap * i.bytes ≤ 281474976710656 := by
          have := nextcap_le (need := n + 1) (old := cap) (by omega) (by omega)
          rw [hby]
          omega
        refine ⟨_, _, run_append_grow (P := P) w t ty e i z ht hi hz ⟨g, 0, none⟩ n cap xs hown.1 (hown.cells (g := g) rfl) a 1 c news hl hnews (by omega) (by omega) hcap, ⟨hlen, .inr ⟨w.heap.size, _, _, rfl, hbase, heap_alloc_new w.drew _, hge, hlm, ?_, ?_⟩⟩, ⟨rfl, rfl, rfl, by simp, fun k hk _ => Below.heap_alloc w.drew _ k hk⟩⟩
        · simp only [Array.size_append, List.size_toArray, size_zeroCells, hzs, hown.1, hl, ← Nat.add_mul]
          congr 1
          omega
        · simp only [Array.toList_append, List.append_assoc]
          rw [← List.append_assoc, ← hlen]
          exact List.take_left
theorem wpList_one48 {P : Program} (w : World) {ops : Array Oper} {rest : List Oper} {o : Oper} {a : Act} {Q : Exit → Act → World → Prop} (hgd : o.guard = none) (s x : Operand) (t : TypeId)
    (ho : o.op = .call { callee := .builtin .append, args := #[s, x], argTypes := #[t, t] }) (base : Nat) (e : TypeId) (i : TypeInfo) (z : Value) (size : Nat) (ht : P.underlying t = some (.slice e)) (hi : P.info? e = some i) (hz : i.zero = some z)
    (hsize : i.size = size) (hby : i.bytes = 48) (hzs : z.cells.size = size) (hsz : 0 < size) (v : Value) (n : Nat) (xs : List Value) (hs : a.eval s = v) (hown : w.ownsRow base e size v n xs)
    (ad : Addr) (c : Nat) (news : List Value) (hx : a.eval x = .slice (some ad) 1 c) (hl : news.length = 1 * size) (hnews : ∀ j u, news[j]? = some u → w.cell? (ad.add j) = some u) (h1 : ∀ u ∈ news, u.oneCell' = true)
    (hn : (n + 1) * 40 ≤ 140737488355328) (hbase : base ≤ w.heap.size)
    (h : ∀ v' w', w'.ownsRow base e size v' (n + 1) (xs ++ news) → w.grownBy w' v.ownBlock → wpList P ops Q rest (a.put o.dst v') w') : wpList P ops Q (o :: rest) a w :=
  wpList_plain hgd fun _ hK => by
    obtain ⟨v', w', hr, h2, h3⟩ := run_one48 (P := P) w base t o.type e i z size ht hi hz hsize hby hzs hsz v n xs hown ad c news hl hnews h1 hn hbase
    unfold Oper.wp execOp
    simp only [ho, resolve, invoke, builtin, Sem.run_bind, Sem.run_pure, Result.andThen_ok, List.map_toArray, List.map_cons, List.map_nil, hs, hx, hr]
    exact hK _ _ (h v' w' h2 h3)
end Go.Proofs.YtcijookbgliglaaDoor

/- The walk over the document's Walk. -/
namespace Go.Proofs.YtcijookbgliglaaDoor
open Go.RowKit

def rtC (sts : List Pm.St) (xs : List (Pm.Tk × Value)) : List Value := xs.flatMap fun x => [.int .i64 x.1.rule, .string (Pm.stateW sts x.1.row), x.2]
theorem rtC_snoc (sts : List Pm.St) (xs : List (Pm.Tk × Value)) (x : Pm.Tk × Value) : rtC sts (xs ++ [x]) = rtC sts xs ++ [.int .i64 x.1.rule, .string (Pm.stateW sts x.1.row), x.2] := by simp [rtC]
/-- What the document's Walk has answered. -/
def RTakC (wS w : World) (base : Nat) (v : Value) (sts : List Pm.St) (tks : List Pm.Tk) : Prop :=
  ∃ xs : List (Pm.Tk × Value), xs.map (·.1) = tks ∧ w.ownsRow base 46 3 v xs.length (rtC sts xs) ∧ ∀ x ∈ xs, NewS wS 0 x.2 x.1.acts ∨ NewS w base x.2 x.1.acts
theorem RTakC.below {wS w w' : World} {base : Nat} {v : Value} {sts : List Pm.St} {tks : List Pm.Tk} (h : RTakC wS w base v sts tks) {B : Nat} (hb : Below B w w') (hB : w.heap.size ≤ B) : RTakC wS w' base v sts tks := by
  obtain ⟨xs, h1, h2, h3⟩ := h
  exact ⟨xs, h1, ownsRow_same h2 (fun k _ hk => hb.block k (by omega)), fun x hx => (h3 x hx).imp id fun h => ownsRow_same h (fun k _ hk => hb.block k (by omega))⟩
def atV (sts : List Pm.St) (row : Nat) : Int := if row < sts.length then (row : Int) else -1
theorem atV_goal (sts : List Pm.St) (g : ByteArray) : atV sts (Pm.goalTo sts g) = Pm.whereI sts g := by
  unfold atV Pm.goalTo
  rcases Pm.where_bd sts g with h | h
  · rw [h]; simp
  · rw [if_pos h.1, if_pos (by omega)]; omega
theorem firstAt_skip (f : Pm.Rl → Bool) (rs : List Pm.Rl) (q : Nat) (h : q < rs.length) (hf : f rs[q] = false) : Pm.firstAt f q (rs.drop q) = Pm.firstAt f (q + 1) (rs.drop (q + 1)) := by
  rw [List.drop_eq_getElem_cons h, Pm.firstAt, if_neg (by simp [hf])]
theorem firstAt_hit (f : Pm.Rl → Bool) (rs : List Pm.Rl) (q : Nat) (h : q < rs.length) (hf : f rs[q] = true) : Pm.firstAt f q (rs.drop q) = some (q, rs[q]) := by
  rw [List.drop_eq_getElem_cons h, Pm.firstAt, if_pos hf]
theorem firstAt_end (f : Pm.Rl → Bool) (rs : List Pm.Rl) (q : Nat) (h : ¬ q < rs.length) : Pm.firstAt f q (rs.drop q) = none := by
  rw [List.drop_of_length_le (by omega)]; rfl
theorem ActsR.newS {w : World} {base : Nat} {v : Value} {acs : List Pm.Ac} (h : ActsR w base v acs) : NewS w 0 v (acs.map (·.word)) := by
  unfold ActsR at h
  unfold NewS
  rw [acCells_words] at h
  rw [List.length_map]
  exact ownsRow_base h (Nat.zero_le _)
theorem one3T {a : Int} {s : ByteArray} {o : Option Addr} {n c : Nat} : ∀ u ∈ [Value.int .i64 a, .string s, .slice o n c], u.oneCell' = true := by
  intro u hu; simp at hu; rcases hu with rfl | rfl | rfl <;> rfl
theorem Tryd.underlyingRTakens : Tryd.prog.underlying 43 = some (.slice 46) := by kernel_rfl
theorem Tryd.infoRTaken : (Tryd.prog.info? 46).map (fun i => (i.zero, i.size, i.bytes)) = some (some (.agg #[.int .i64 0, .string ByteArray.empty, .slice none 0 0]), 3, 48) := by kernel_rfl

theorem blk3r {w : World} {k : Nat} {a b c : Value} {T : TypeId} (h : w.heap[k]? = some (.cells #[a, b, c] T (0, 0))) :
    w.cell? ⟨k, 0, none⟩ = some a ∧ w.cell? ⟨k, 1, none⟩ = some b ∧ w.cell? ⟨k, 2, none⟩ = some c ∧ ∀ o, w.frozen? ⟨k, o, none⟩ = false := by
  simp [World.cell?, World.frozen?, h]
/-- The document's search for a rule, in its midst: block T is what will be told. -/
def InW (wS w0 wi : World) (B : Nat) (sts : List Pm.St) (rs : List Pm.Rl) (f : Pm.Rl → Bool) (g2 : Nat) (tv kk : Value) : Prop :=
  (∃ (q : Nat) (a : Option Addr) (n c : Nat), q + g2 = rs.length + 1 ∧ q ≤ rs.length ∧ kk = .int .i64 (q : Int) ∧ tv = .int .i64 (-1) ∧ Hid (Pm.firstAt f q (rs.drop q) = Pm.firstAt f 0 rs) ∧ Hid (wi.heap[w0.heap.size]? = some (.cells #[.int .i64 (-1), .string Pm.closedW, .slice a n c] 46 (0, 0))) ∧ Hid (NewS wS 0 (.slice a n c) [Pm.alertW] ∨ NewS wi B (.slice a n c) [Pm.alertW])) ∨
  (∃ (i : Nat) (r : Pm.Rl) (a : Option Addr) (n c : Nat), g2 = 0 ∧ i < rs.length ∧ kk = .int .i64 ((i : Int) + 1) ∧ tv = .int .i64 (Pm.whereI sts r.goal) ∧ Hid (Pm.firstAt f 0 rs = some (i, r)) ∧ Hid (wi.heap[w0.heap.size]? = some (.cells #[.int .i64 (i : Int), .string r.goal, .slice a n c] 46 (0, 0))) ∧ Hid (NewS wS 0 (.slice a n c) (r.actions.map (·.word)) ∨ NewS wi B (.slice a n c) (r.actions.map (·.word))))

set_option maxRecDepth 100000 in
set_option maxHeartbeats 8000000 in
theorem refWalk_any (wS w : World) (base : Nat) (a1 : Option Addr) (n1 c1 : Nat) (sts : List Pm.St) (v : Value) (l : List Hp) (hst : StatesR wS base (.slice a1 n1 c1) sts) (hbS : Below wS.heap.size wS w) (hA : HapsA w v l) (hgl : Pm.goallessO sts = none) (h0 : 0 < sts.length) (hlen : l.length * 40 ≤ 140737488355328) :
    Calls Tryd.prog 11 #[.slice a1 n1 c1, v] w fun e w' => ∃ v', e = .returned v' ∧ RTakC wS w' w.heap.size v' sts (Pm.walkL sts 0 l) ∧ Below w.heap.size w w' := by
  have HS := hide hst
  have HA := hide hA
  have HG := hide hgl
  have HbS := hide hbS
  obtain ⟨a2, c2, rfl, hlc, hcm, -⟩ := hA
  obtain ⟨iT, hT, hT0, hT1, hT2⟩ := info_parts Tryd.infoRTaken
  obtain ⟨x1, x2, hx, hsm, -⟩ := hst.at2
  simp only [Value.slice.injEq] at hx
  obtain ⟨rfl, rfl, rfl⟩ := hx
  clear hst hgl hbS
  go_enter Tryd.func11, Tryd.ntmps11
  go_wp2
  go_loopg [5, 6, 7] l.length (fun gk out at_ i wr => ∃ (k : Nat) (sa : Option Addr) (sn sc : Nat), k + gk = l.length ∧ i = .int .i64 (k : Int) ∧ out = .slice sa sn sc ∧ at_ = .int .i64 (atV sts (Pm.endRow sts 0 (l.take k))) ∧ Hid (Below w.heap.size w wr) ∧ Hid (RTakC wS wr w.heap.size (.slice sa sn sc) sts (Pm.walkL sts 0 (l.take k))))
  case atStart => exact ⟨0, none, 0, 0, by omega, rfl, rfl, by unfold atV; rw [if_pos (by simpa [Pm.endRow] using h0)]; rfl, Below.refl _ _, [], rfl, World.ownsRow_nil _ _ _ _, fun x hx => by simp at hx⟩
  case round =>
    rename World => w0
    obtain ⟨k, sa, sn, sc, hk, rfl, rfl, rfl, HB, HR⟩ := hrel
    have hk1 : k ≤ l.length := by omega
    have E1 := hide hk
    clear hk
    by_cases hlt : k < l.length
    · have hle := Pm.endRow_le sts (l.take k) 0 (Nat.zero_le _)
      have HWS := hide (show Pm.walkL sts 0 (l.take (k + 1)) = Pm.walkL sts 0 (l.take k) ++ [Pm.step1 sts (Pm.endRow sts 0 (l.take k)) l[k].1 l[k].2] by rw [List.take_succ_eq_append_getElem hlt, Pm.walkL_snoc])
      have HES := hide (show Pm.endRow sts 0 (l.take (k + 1)) = (Pm.step1 sts (Pm.endRow sts 0 (l.take k)) l[k].1 l[k].2).row by rw [List.take_succ_eq_append_getElem hlt, Pm.endRow_snoc])
      generalize Pm.endRow sts 0 (l.take k) = row at hle HWS HES ⊢
      generalize ht : Pm.step1 sts row l[k].1 l[k].2 = tk at HWS HES
      have HT := hide ht
      clear ht
      have hz0 := HB.out.size
      have HB0 := hide ((Below.refl w0.heap.size w0).alloc (Nat.le_refl _) (.cells #[.int .i64 (-1), .string Pm.closedW, .slice none 0 0] 46))
      have HN0 := hide (heap_alloc_new w0 (.cells #[.int .i64 (-1), .string Pm.closedW, .slice none 0 0] 46))
      go_upto_if 21 with fail
      go_cut [6] (fun y wc => y = .int .i64 (atV sts tk.row) ∧ ∃ (av : Option Addr) (an ac : Nat), Hid (Below w0.heap.size w0 wc) ∧ Hid (wc.heap[w0.heap.size]? = some (.cells #[.int .i64 tk.rule, .string (Pm.stateW sts tk.row), .slice av an ac] 46 (0, 0))) ∧ Hid (NewS wS 0 (.slice av an ac) tk.acts ∨ NewS wc w.heap.size (.slice av an ac) tk.acts))
      case first =>
        by_cases hrow : row < sts.length
        · rw [show atV sts row = (row : Int) from if_pos hrow]
          obtain ⟨g, b, n', c', rfl, hcap, s0, s1, s2, hRl⟩ := HS.out.at3 row hrow
          obtain ⟨rfl, hrm⟩ := hRl.len
          have HRl := hide hRl
          have HFS := hide (show Pm.firstAt (Pm.fits l[k].2 l[k].1) 0 sts[row].rules = none ∧ tk = ⟨-1, sts.length, [Pm.alertW]⟩ ∨ ∃ i r, Pm.firstAt (Pm.fits l[k].2 l[k].1) 0 sts[row].rules = some (i, r) ∧ tk = ⟨(i : Int), Pm.goalTo sts r.goal, r.actions.map (·.word)⟩ by
            have := HT.out
            unfold Pm.step1 at this
            rw [List.getElem?_eq_getElem hrow] at this
            simp only at this
            cases e : Pm.firstAt (Pm.fits l[k].2 l[k].1) 0 sts[row].rules with
            | none => rw [e] at this; exact .inl ⟨rfl, this.symm⟩
            | some x => rw [e] at this; exact .inr ⟨x.1, x.2, rfl, this.symm⟩)
          have HSg := hide (show g < wS.heap.size from World.block_lt_of_cell? wS _ s0)
          have HBS := hide (HbS.out.trans (HB.out.mono HbS.out.size))
          clear hRl HT
          go_wp2_with fail
          go_loopg [9, 10] (sts[row].rules.length + 1) (fun g2 tv kk wi => Hid (Below w0.heap.size w0 wi) ∧ InW wS w0 wi w.heap.size sts sts[row].rules (Pm.fits l[k].2 l[k].1) g2 tv kk)
          case atStart =>
            refine ⟨two_below _ _ _, .inl ⟨0, some ⟨w0.heap.size + 1, 0, none⟩, 1, 1, by omega, Nat.zero_le _, rfl, rfl, rfl, (two_new _ _ _).1, .inr ?_⟩⟩
            exact ⟨rfl, .inr ⟨w0.heap.size + 1, 1, #[.string Pm.alertW], rfl, by omega, (two_new _ _ _).2, Nat.le_refl _, by unfold maxLen; omega, rfl, rfl⟩⟩
          case round =>
            obtain ⟨HBi, hin⟩ := hrel
            have HBSi := hide (HBS.out.trans (HBi.out.mono HBS.out.size))
            have hzi := HBi.out.size
            have hzS := HBS.out.size
            have s2' := (HBSi.out.cell (p := ⟨g, row * 3 + 2, none⟩) HSg.out).trans s2
            rcases hin with ⟨q, a, n, c, hq, hq1, rfl, rfl, HF, HN, HNS⟩ | ⟨i, r, a, n, c, rfl, hi, rfl, rfl, HF, HN, HNS⟩
            · have hTl : w0.heap.size < wr.heap.size := (Array.getElem?_eq_some_iff.1 HN.out).1
              obtain ⟨t0, t1, t2, tf⟩ := blk3r HN.out
              have E2 := hide hq
              clear hq
              by_cases hql : q < sts[row].rules.length
              · obtain ⟨gr, b1, n1, d1, b2, n2, d2, rfl, hcapr, r0, r1, r2, r3, r4, r5, hG, hAc⟩ := HRl.out.at3 q hql
                have hgr := World.block_lt_of_cell? wS _ r0
                have r0' := (HBSi.out.cell (p := ⟨gr, q * 6, none⟩) hgr).trans r0
                have r1' := (HBSi.out.cell (p := ⟨gr, q * 6 + 1, none⟩) hgr).trans r1
                have r2' := (HBSi.out.cell (p := ⟨gr, q * 6 + 2, none⟩) hgr).trans r2
                have r3' := (HBSi.out.cell (p := ⟨gr, q * 6 + 3, none⟩) hgr).trans r3
                have r4' := (HBSi.out.cell (p := ⟨gr, q * 6 + 4, none⟩) hgr).trans r4
                have r5' := (HBSi.out.cell (p := ⟨gr, q * 6 + 5, none⟩) hgr).trans r5
                have hBwi : Below w.heap.size w wr := HB.out.trans (HBi.out.mono hz0)
                obtain ⟨a2', c2', hv2, _, _, hcell⟩ := HA.out.below hBwi (Nat.le_refl _)
                simp only [Value.slice.injEq] at hv2
                obtain ⟨rfl, _, rfl⟩ := hv2
                obtain ⟨hb, ho, hv, rfl, l0, l1, hst, -⟩ := hcell k hlt
                have hbl : hb < wr.heap.size := World.block_lt_of_cell? wr _ l0
                have HBr := hide ((Below.refl wr.heap.size wr).alloc (Nat.le_refl _) (.cells #[.string sts[row].rules[q].event, .slice b1 n1 d1, .string sts[row].rules[q].goal, .slice b2 n2 d2, .int .i64 (sts[row].rules[q].at_ : Int), .int .i64 (sts[row].rules[q].to_ : Int)] 72))
                have HGa := hide (hG.below (HBSi.out.alloc (by omega) (.cells #[.string sts[row].rules[q].event, .slice b1 n1 d1, .string sts[row].rules[q].goal, .slice b2 n2 d2, .int .i64 (sts[row].rules[q].at_ : Int), .int .i64 (sts[row].rules[q].to_ : Int)] 72)))
                have HSa := hide (hst.below HBr.out (Nat.le_refl _))
                have HAc := hide hAc
                obtain ⟨ha, hc, rfl, -⟩ := hst
                clear hcell hG hAc r0 r1 r2 r3 r4 r5 hBwi s2
                go_upto_region 14 with fail
                go_cut [12] (fun y wc => y = .bool (Pm.fits l[k].2 l[k].1 sts[row].rules[q]) ∧ Hid (Below (wr.heap.size + 1) (wr.alloc (.cells #[.string sts[row].rules[q].event, .slice b1 n1 d1, .string sts[row].rules[q].goal, .slice b2 n2 d2, .int .i64 (sts[row].rules[q].at_ : Int), .int .i64 (sts[row].rules[q].to_ : Int)] 72)) wc))
                case first =>
                  go_region_with (go_at_call 23; refine (taken_any _ base sts[row].rules[q] _ _ _ _ _ _ l[k].1 _ l[k].2 ?_ ?_).mono ?_; exact ownsRow_same HGa.out (fun _ _ _ => rfl); exact HSa.out.below ((Below.refl _ _).drew) (Nat.le_refl _); rintro e w5 ⟨rfl, hb5⟩; have HB5 := hide hb5; clear hb5)
                  all_goals
                    go_wp2_with fail
                    go_meet
                    case rel => exact ⟨rfl, ((Below.refl _ _).drew.trans HB5.out).mono (by simp)⟩
                case rest =>
                  obtain ⟨rfl, HBc⟩ := hcut
                  have hzc := HBc.out.size
                  simp only [World.size_alloc] at hzc
                  have HBw := hide (HBi.out.trans ((HBr.out.trans (HBc.out.mono (by omega))).mono hzi))
                  have HNc := hide ((HBc.out.block w0.heap.size (by omega)).trans ((Below.heap_alloc _ _ _ hTl).trans HN.out))
                  have HNSc := hide (HNS.out.imp id fun h => ownsRow_same (w' := wc) h (fun j _ h2 => (HBc.out.block j (by omega)).trans (Below.heap_alloc _ _ _ h2)))
                  obtain ⟨y0, y1, y2, y3, y4, y5⟩ := blk6 ((HBc.out.block wr.heap.size (by omega)).trans (heap_alloc_new wr (.cells #[.string sts[row].rules[q].event, .slice b1 n1 d1, .string sts[row].rules[q].goal, .slice b2 n2 d2, .int .i64 (sts[row].rules[q].at_ : Int), .int .i64 (sts[row].rules[q].to_ : Int)] 72)))
                  clear t0 t1 t2 tf
                  obtain ⟨t0, t1, t2, tf⟩ := blk3r HNc.out
                  cases hft : Pm.fits l[k].2 l[k].1 sts[row].rules[q]
                  · have HF2 := hide ((firstAt_skip _ _ q hql hft).symm.trans HF.out)
                    clear hft
                    go_wp2_with fail
                    go_roundg (sts[row].rules.length + 1 - (q + 1))
                    case measure => have := E2.out; omega
                    case rel => exact ⟨HBw, .inl ⟨q + 1, a, n, c, by omega, by omega, by go_num, rfl, HF2, HNc, HNSc⟩⟩
                  · have HF2 := hide (HF.out.symm.trans (firstAt_hit _ _ q hql hft))
                    have HBSc := hide (HBS.out.trans (HBw.out.mono hzS))
                    clear hft
                    go_wp2_with fail
                    refine (where_any _ base _ sts _ (HS.out.below (((HBSc.out.setCell (by simpa using hzS) _).setCell (by simpa using hzS) _).setCell (by simpa using hzS) _))).mono ?_
                    rintro e w6 ⟨rfl, rfl⟩
                    go_wp2_with fail
                    go_roundg 0
                    case measure => have := E2.out; omega
                    case rel =>
                      refine ⟨((HBw.out.setCell (by simp) _).setCell (by simp) _).setCell (by simp) _, .inr ⟨q, sts[row].rules[q], b2, n2, d2, rfl, hql, by go_num, rfl, HF2, ?_, .inl HAc.out.newS⟩⟩
                      have := HNc.out
                      show _ = _
                      simp [World.setCell, Array.getElem?_modify, this]
              · have hqe : q = sts[row].rules.length := by omega
                have HTK := hide (show tk = ⟨-1, sts.length, [Pm.alertW]⟩ by
                  rcases HFS.out with ⟨_, h⟩ | ⟨i, r, h, _⟩
                  · exact h
                  · have := HF.out; rw [firstAt_end _ _ _ hql, h] at this; cases this)
                subst hqe
                go_wp2_with fail
                go_meet
                case rel =>
                  rw [HTK.out]
                  refine ⟨?_, a, n, c, HBi, ?_, HNS⟩
                  · show _ = Value.int .i64 (atV sts sts.length); rw [show atV sts sts.length = -1 from if_neg (by omega)]
                  · show _ = some (Obj.cells #[Value.int .i64 (-1), Value.string (Pm.stateW sts sts.length), Value.slice a n c] 46 (0, 0))
                    rw [Pm.stateW_none (by simp)]
                    exact HN.out
            · obtain ⟨t0, t1, t2, tf⟩ := blk3r HN.out
              have hTl : w0.heap.size < wr.heap.size := (Array.getElem?_eq_some_iff.1 HN.out).1
              have HTK := hide (show tk = ⟨(i : Int), Pm.goalTo sts r.goal, r.actions.map (·.word)⟩ by
                rcases HFS.out with ⟨h, _⟩ | ⟨i', r', h, h2⟩
                · have := HF.out; rw [h] at this; cases this
                · have := HF.out; rw [h] at this; simp at this; obtain ⟨rfl, rfl⟩ := this; exact h2)
              have HGS := hide (Pm.goal_state sts HG.out sts[row] (List.getElem_mem hrow) r (Pm.firstAt_mem _ _ _ _ HF.out))
              have hneg : ¬ (i : Int) < 0 := by omega
              by_cases hil : i + 1 < sts[row].rules.length
              · have hil' : (i : Int) + 1 < (sts[row].rules.length : Int) := by omega
                go_wp2_with fail
                go_meet
                case rel =>
                  rw [HTK.out]
                  refine ⟨?_, a, n, c, HBi, ?_, HNS⟩
                  · show _ = Value.int .i64 (atV sts (Pm.goalTo sts r.goal)); rw [atV_goal]
                  · show _ = some (Obj.cells #[Value.int .i64 (i : Int), Value.string (Pm.stateW sts (Pm.goalTo sts r.goal)), Value.slice a n c] 46 (0, 0))
                    rw [HGS.out]; exact HN.out
              · have hil' : ¬ (i : Int) + 1 < (sts[row].rules.length : Int) := by omega
                go_wp2_with fail
                go_meet
                case rel =>
                  rw [HTK.out]
                  refine ⟨?_, a, n, c, HBi, ?_, HNS⟩
                  · show _ = Value.int .i64 (atV sts (Pm.goalTo sts r.goal)); rw [atV_goal]
                  · show _ = some (Obj.cells #[Value.int .i64 (i : Int), Value.string (Pm.stateW sts (Pm.goalTo sts r.goal)), Value.slice a n c] 46 (0, 0))
                    rw [HGS.out]; exact HN.out
        · have hre : row = sts.length := by omega
          have HTK := hide (show tk = ⟨-1, row, []⟩ from HT.out.symm.trans (Pm.step1_shut (List.getElem?_eq_none (by omega)) _ _))
          rw [show atV sts row = -1 from if_neg hrow]
          go_wp2_with fail
          go_meet
          case rel =>
            refine ⟨?_, none, 0, 0, HB0, ?_, .inl ?_⟩
            · rw [HTK.out]; show _ = Value.int .i64 (atV sts row); rw [show atV sts row = -1 from if_neg hrow]
            · have := HN0.out
              rw [HTK.out]
              show _ = some (Obj.cells #[Value.int .i64 (-1), Value.string (Pm.stateW sts row), Value.slice none 0 0] 46 (0, 0))
              rw [Pm.stateW_none (List.getElem?_eq_none (by omega))]
              exact this
            · rw [HTK.out]; exact NewS.nil _ _
      case rest =>
        obtain ⟨rfl, av, an, ac, HB1, HN1, HS1⟩ := hcut
        obtain ⟨t0, t1, t2, tf⟩ := blk3r HN1.out
        have hz1 := HB1.out.size
        have ht1 : w0.heap.size < wc.heap.size := (Array.getElem?_eq_some_iff.1 HN1.out).1
        obtain ⟨xs, hx1, hx2, hx3⟩ := HR.out.below HB1.out (Nat.le_refl _)
        have hxl : xs.length = k := by rw [← List.length_map (f := fun x : Pm.Tk × Value => x.1), hx1, Pm.walkL_len, List.length_take]; omega
        have HX2 := hide (ownsRow_alloc hx2 (.cells #[.int .i64 tk.rule, .string (Pm.stateW sts tk.row), .slice av an ac] 46))
        have HX1 := hide hx1
        have HX3 := hide hx3
        clear hx1 hx2 hx3
        go_wp2_with (at_builtin; go_must (refine wpList_one48 _ rfl _ _ 43 rfl w.heap.size 46 iT (.agg #[.int .i64 0, .string ByteArray.empty, .slice none 0 0]) 3 Tryd.underlyingRTakens hT hT0 hT1 hT2 rfl (by decide) _ _ _ rfl HX2.out ⟨wc.heap.size, 0, none⟩ 1 [.int .i64 tk.rule, .string (Pm.stateW sts tk.row), .slice av an ac] rfl rfl (cell_three_new _ _ _ _ _ _ rfl) one3T (by omega) (by simp; omega) ?_; intro v5 w5 ho5 hg5; obtain ⟨a5, m5, l5, rfl⟩ := own_slice ho5; have hrow : ∀ kk, (Value.slice sa sn sc).ownBlock = some kk → w.heap.size ≤ kk := (fun kk e' => (World.ownsRow.lt HX2.out kk e').1); have HB5 := hide (((HB.out.trans (HB1.out.mono hz0)).alloc (by omega) (.cells #[.int .i64 tk.rule, .string (Pm.stateW sts tk.row), .slice av an ac] 46)).grown hg5 (by simp; omega) hrow); have HNS := hide (show ∀ (u : Value) (bs : List ByteArray), NewS wc w.heap.size u bs → NewS w5 w.heap.size u bs from fun u bs hu => ownsRow_grown' (ownsRow_alloc hu _) HX2.out hg5 (by decide)); have HO5 := hide ho5; clear ho5 hg5))
        go_roundg (l.length - (k + 1))
        case measure => have := E1.out; omega
        case rel =>
          refine ⟨k + 1, a5, m5, l5, by omega, by go_num, rfl, by rw [HES.out], HB5, xs ++ [(tk, .slice av an ac)], ?_, ?_, ?_⟩
          · rw [List.map_append, HX1.out, HWS.out]; rfl
          · rw [rtC_snoc, List.length_append]; exact HO5.out
          · intro x hx
            rcases List.mem_append.1 hx with hx | hx
            · exact (HX3.out x hx).imp id (HNS.out _ _)
            · simp at hx; subst hx; exact HS1.out.imp id (HNS.out _ _)
    · have hkk : k = l.length := by omega
      subst hkk
      have HR' := hide (show RTakC wS w0 w.heap.size (.slice sa sn sc) sts (Pm.walkL sts 0 l) by have := HR.out; rw [List.take_length] at this; exact this)
      go_wp2
      go_ret
      exact ⟨_, rfl, HR'.out, HB.out⟩
end Go.Proofs.YtcijookbgliglaaDoor

/- What the law Walks writes over, and what it leaves as it was. -/
namespace Go.Proofs.YtcijookbgliglaaDoor
open Go.RowKit

theorem few_of_answer (s : ByteArray) (h : (Pm.answer s).1 = 0) : FewM (Pm.readL s).1 := by
  have hs : ¬ 300 < s.size := by
    intro hs
    unfold Pm.answer at h
    rw [if_pos hs] at h
    simp at h
  intro st hst r hr
  have := ((Pm.readL_few s st hst).2 r hr).2.1
  omega
theorem goals_of_answer (s : ByteArray) (h : (Pm.answer s).1 = 0) : Pm.goallessO (Pm.readL s).1 = none := by
  unfold Pm.answer at h
  split at h
  · simp at h
  · split at h
    · simp at h
    · unfold Pm.verdict at h
      cases h1 : Pm.manyO (Pm.readL s).1 with
      | some p => rw [h1] at h; simp at h
      | none =>
        rw [h1] at h
        cases h2 : Pm.doubledO (Pm.readL s).1 with
        | some p => rw [h2] at h; simp at h
        | none =>
          rw [h2] at h
          cases h3 : Pm.goallessO (Pm.readL s).1 with
          | some p => rw [h3] at h; simp at h
          | none => rfl

/-- Of what was there only blocks from S1 up to S2 may have turned. -/
structure KeptOut (S1 S2 : Nat) (w w' : World) : Prop where
  os : w'.os = w.os
  tape : w'.tape = w.tape
  output : w'.output = w.output
  size : w.heap.size ≤ w'.heap.size
  block : ∀ k, k < w.heap.size → (k < S1 ∨ S2 ≤ k) → w'.heap[k]? = w.heap[k]?
theorem KeptOut.refl (S1 S2 : Nat) (w : World) : KeptOut S1 S2 w w := ⟨rfl, rfl, rfl, Nat.le_refl _, fun _ _ _ => rfl⟩
theorem KeptOut.setCell {S1 S2 : Nat} {w w' : World} (h : KeptOut S1 S2 w w') {p : Addr} (h1 : S1 ≤ p.block) (h2 : p.block < S2) (v : Value) : KeptOut S1 S2 w (w'.setCell p v) :=
  ⟨h.os, h.tape, h.output, by have := h.size; simpa [World.setCell] using this, fun k hk hb => (Below.heap_setCell _ _ _ _ (by omega)).trans (h.block k hk hb)⟩
theorem KeptOut.then_ {S1 S2 : Nat} {w w' w'' : World} (h : KeptOut S1 S2 w w') (hb : Below w'.heap.size w' w'') : KeptOut S1 S2 w w'' :=
  ⟨hb.os.trans h.os, hb.tape.trans h.tape, hb.output.trans h.output, Nat.le_trans h.size hb.size, fun k hk h2 => (hb.block k (by have := h.size; omega)).trans (h.block k hk h2)⟩
theorem KeptOut.below {S1 S2 : Nat} {w w' : World} (h : KeptOut S1 S2 w w') {B : Nat} (hB : B ≤ S1) (hw : B ≤ w.heap.size) : Below B w w' :=
  ⟨h.os, h.tape, h.output, h.size, fun k hk => h.block k (by omega) (.inl (by omega))⟩

/-- Room for n texts. -/
def Room (w : World) (base : Nat) (v : Value) (n : Nat) : Prop := ∃ a c, v = .slice a n c ∧ n ≤ c ∧ c ≤ 9223372036854775807 ∧ (0 < n → ∃ g cs, a = some ⟨g, 0, none⟩ ∧ base ≤ g ∧ w.heap[g]? = some (.cells cs 9 (0, 0)) ∧ n ≤ cs.size)
theorem NewS.room {w : World} {base : Nat} {v : Value} {l : List ByteArray} (h : NewS w base v l) : Room w base v l.length := by
  rcases h.2 with ⟨rfl, hn⟩ | ⟨g, cap, cur, rfl, hb, hh, h1, h2, h3, _⟩
  · exact ⟨none, 0, by rw [hn], by omega, by omega, fun h => by omega⟩
  · exact ⟨_, cap, rfl, h1, by unfold maxLen at h2; omega, fun _ => ⟨g, cur, rfl, hb, hh, by omega⟩⟩
theorem Room.set {w : World} {base : Nat} {v : Value} {n : Nat} (h : Room w base v n) (b o : Nat) (u : Value) : Room (w.setCell ⟨b, o, none⟩ u) base v n := by
  obtain ⟨a, c, rfl, h1, h2, h3⟩ := h
  refine ⟨a, c, rfl, h1, h2, fun hn => ?_⟩
  obtain ⟨g, cs, rfl, hb, hh, hs⟩ := h3 hn
  by_cases e : g = b
  · subst e
    exact ⟨g, cs.setIfInBounds o u, rfl, hb, by simp [World.setCell, Array.getElem?_modify, hh], by simpa using hs⟩
  · exact ⟨g, cs, rfl, hb, (Below.heap_setCell _ _ _ _ e).trans hh, hs⟩
theorem Room.at_ {w : World} {base n c : Nat} {a : Option Addr} (h : Room w base (.slice a n c) n) (k : Nat) (hk : k < n) : ∃ g u, a = some ⟨g, 0, none⟩ ∧ base ≤ g ∧ n ≤ c ∧ w.cell? ⟨g, k, none⟩ = some u ∧ w.frozen? ⟨g, k, none⟩ = false ∧ ∃ cs, w.heap[g]? = some (.cells cs 9 (0, 0)) := by
  obtain ⟨a', c', hv, h1, h2, h3⟩ := h
  simp only [Value.slice.injEq] at hv
  obtain ⟨rfl, _, rfl⟩ := hv
  obtain ⟨g, cs, rfl, hb, hh, hs⟩ := h3 (by omega)
  have hk' : k < cs.size := by omega
  exact ⟨g, cs[k], rfl, hb, h1, by simp [World.cell?, hh, hk'], by simp [World.frozen?, hh], cs, hh⟩
theorem Room.below {w w' : World} {base : Nat} {v : Value} {n : Nat} (h : Room w base v n) (hb : Below w.heap.size w w') : Room w' base v n := by
  obtain ⟨a, c, rfl, h1, h2, h3⟩ := h
  refine ⟨a, c, rfl, h1, h2, fun hn => ?_⟩
  obtain ⟨g, cs, rfl, hg, hh, hs⟩ := h3 hn
  exact ⟨g, cs, rfl, hg, (hb.block g (Array.getElem?_eq_some_iff.1 hh).1).trans hh, hs⟩

/-- An answer that may be written over. -/
def ZIn (w : World) (base g n : Nat) : Prop :=
  ∃ cs : Array Value, w.heap[g]? = some (.cells cs 42 (0, 0)) ∧ cs.size = n * 3 ∧ base ≤ g ∧ ∀ j, j < n → ∃ a m c, cs[j * 3 + 2]? = some (.slice a m c) ∧ Room w base (.slice a m c) m
theorem ZIn.of {w : World} {base g : Nat} {sts : List Pm.St} {tks : List Pm.Tk} (h : TakC w base g sts tks) : ZIn w base g tks.length := by
  obtain ⟨xs, h1, h2, ⟨cs, hc, hs, hcell⟩, h3, _⟩ := h
  have hl : xs.length = tks.length := by rw [← h1, List.length_map]
  refine ⟨cs, hc, hs, h2, fun j hj => ?_⟩
  have hj' : j < xs.length := by omega
  have hn := h3 xs[j] (List.getElem_mem hj')
  obtain ⟨a, m, c, hv⟩ := own_slice hn
  have hr := hn.room
  rw [hv] at hr
  have he : m = xs[j].1.acts.length := by
    obtain ⟨a', c', hv', _⟩ := hr
    simp only [Value.slice.injEq] at hv'
    exact hv'.2.1
  rw [← he] at hr
  exact ⟨a, m, c, by rw [← hv]; exact (hcell j hj').2.2, hr⟩
theorem ZIn.lt {w : World} {base g n : Nat} (h : ZIn w base g n) : g < w.heap.size := by
  obtain ⟨cs, hc, _⟩ := h
  exact (Array.getElem?_eq_some_iff.1 hc).1
theorem ZIn.at_ {w : World} {base g n : Nat} (h : ZIn w base g n) (k : Nat) (hk : k < n) : ∃ a m c u0 u1, w.cell? ⟨g, k * 3 + 2, none⟩ = some (.slice a m c) ∧ Room w base (.slice a m c) m ∧ w.cell? ⟨g, k * 3, none⟩ = some u0 ∧ w.cell? ⟨g, k * 3 + 1, none⟩ = some u1 ∧ ∀ o, w.frozen? ⟨g, o, none⟩ = false := by
  obtain ⟨cs, hc, hs, hb, hr⟩ := h
  obtain ⟨a, m, c, h1, h2⟩ := hr k hk
  have i0 : k * 3 < cs.size := by omega
  have i1 : k * 3 + 1 < cs.size := by omega
  exact ⟨a, m, c, cs[k * 3], cs[k * 3 + 1], by simp [World.cell?, hc, h1], h2, by simp [World.cell?, hc, i0], by simp [World.cell?, hc, i1], fun o => by simp [World.frozen?, hc]⟩
theorem ZIn.setS {w : World} {base g n : Nat} (h : ZIn w base g n) {b q : Nat} {cs' : Array Value} (hp : w.heap[b]? = some (.cells cs' 9 (0, 0))) (u : Value) : ZIn (w.setCell ⟨b, q, none⟩ u) base g n ∧ ∀ o, (w.setCell ⟨b, q, none⟩ u).cell? ⟨g, o, none⟩ = w.cell? ⟨g, o, none⟩ := by
  obtain ⟨cs, hc, hs, hb, hr⟩ := h
  have hne : g ≠ b := fun e => by
    subst e
    rw [hc] at hp
    simp at hp
  refine ⟨⟨cs, (Below.heap_setCell _ _ _ _ hne).trans hc, hs, hb, fun j hj => ?_⟩, fun o => World.cell?_of_block (w := w) (Below.heap_setCell _ _ _ _ hne)⟩
  obtain ⟨a, m, c, h1, h2⟩ := hr j hj
  exact ⟨a, m, c, h1, h2.set b q u⟩
theorem ZIn.zero {w : World} {base g n : Nat} (h : ZIn w base g n) (k : Nat) (v0 v1 : Value) : ZIn (((w.setCell ⟨g, k * 3, none⟩ v0).setCell ⟨g, k * 3 + 1, none⟩ v1).setCell ⟨g, k * 3 + 2, none⟩ (.slice none 0 0)) base g n := by
  obtain ⟨cs, hc, hs, hb, hr⟩ := h
  refine ⟨((cs.setIfInBounds (k * 3) v0).setIfInBounds (k * 3 + 1) v1).setIfInBounds (k * 3 + 2) (.slice none 0 0), by simp [World.setCell, Array.getElem?_modify, hc], by simp [hs], hb, fun j hj => ?_⟩
  obtain ⟨a, m, c, h1, h2⟩ := hr j hj
  by_cases e : j = k
  · subst e
    have i2 : j * 3 + 2 < cs.size := by omega
    exact ⟨none, 0, 0, by simp [i2], none, 0, rfl, Nat.le_refl _, by omega, fun h => by omega⟩
  · refine ⟨a, m, c, ?_, ((h2.set _ _ _).set _ _ _).set _ _ _⟩
    simp only [Array.getElem?_setIfInBounds]
    rw [if_neg (by omega), if_neg (by omega), if_neg (by omega)]
    exact h1
theorem ZIn.below {w w' : World} {base g n : Nat} (h : ZIn w base g n) (hb : Below w.heap.size w w') : ZIn w' base g n := by
  obtain ⟨cs, hc, hs, hg, hr⟩ := h
  refine ⟨cs, (hb.block g (Array.getElem?_eq_some_iff.1 hc).1).trans hc, hs, hg, fun j hj => ?_⟩
  obtain ⟨a, m, c, h1, h2⟩ := hr j hj
  exact ⟨a, m, c, h1, h2.below hb⟩

/-- The answer that is held against the document's: from its k-th part on it is whole. -/
structure LIn (w : World) (S1 S2 g : Nat) (sts : List Pm.St) (xs : List (Pm.Tk × Value)) (k : Nat) : Prop where
  taks : TakIn w g xs.length sts xs
  rows : ∀ (j : Nat) (hj : j < xs.length), k ≤ j → NewS w S1 xs[j].2 xs[j].1.acts
  lt : ∀ x ∈ xs, ∀ kk, x.2.ownBlock = some kk → kk < S2
  apart : Apart xs
theorem LIn.next {w : World} {S1 S2 g : Nat} {sts : List Pm.St} {xs : List (Pm.Tk × Value)} {k : Nat} (h : LIn w S1 S2 g sts xs k) : LIn w S1 S2 g sts xs (k + 1) := ⟨h.taks, fun j hj hk => h.rows j hj (by omega), h.lt, h.apart⟩
theorem LIn.below {w w' : World} {S1 S2 g : Nat} {sts : List Pm.St} {xs : List (Pm.Tk × Value)} {k : Nat} (h : LIn w S1 S2 g sts xs k) (hb : Below w.heap.size w w') : LIn w' S1 S2 g sts xs k := ⟨h.taks.below hb, fun j hj hk => (h.rows j hj hk).below hb, h.lt, h.apart⟩
theorem LIn.set {w : World} {S1 S2 g : Nat} {sts : List Pm.St} {xs : List (Pm.Tk × Value)} {k : Nat} (h : LIn w S1 S2 g sts xs (k + 1)) (hk : k < xs.length) {p : Addr} (hp : xs[k].2.ownBlock = some p.block) {cs : Array Value} (hc : w.heap[p.block]? = some (.cells cs 9 (0, 0))) (u : Value) : LIn (w.setCell p u) S1 S2 g sts xs (k + 1) := by
  refine ⟨?_, fun j hj hk2 => ?_, h.lt, h.apart⟩
  · obtain ⟨cs', hc', h2, h3⟩ := h.taks
    refine ⟨cs', (Below.heap_setCell _ _ _ _ (fun e => ?_)).trans hc', h2, h3⟩
    have e' : g = p.block := e
    subst e'
    rw [hc] at hc'
    simp at hc'
  · have hn := h.rows j hj hk2
    refine ⟨hn.1, ?_⟩
    rcases hn.2 with h1 | ⟨g', cap, cur, hv, h1, hh, rest⟩
    · exact .inl h1
    · refine .inr ⟨g', cap, cur, hv, h1, (Below.heap_setCell _ _ _ _ (fun e => ?_)).trans hh, rest⟩
      have e' : g' = p.block := e
      exact h.apart k j hk hj p.block (by omega) hp (by rw [hv, ← e']; rfl)
theorem rt_at {w : World} {base : Nat} {sts : List Pm.St} {a : Option Addr} {n c : Nat} {ts : List (Pm.Tk × Value)} (h : w.ownsRow base 46 3 (.slice a n c) ts.length (rtC sts ts)) (k : Nat) (hk : k < ts.length) :
    ∃ g, a = some ⟨g, 0, none⟩ ∧ base ≤ g ∧ g < w.heap.size ∧ ts.length ≤ c ∧ w.cell? ⟨g, k * 3, none⟩ = some (.int .i64 ts[k].1.rule) ∧ w.cell? ⟨g, k * 3 + 1, none⟩ = some (.string (Pm.stateW sts ts[k].1.row)) ∧ w.cell? ⟨g, k * 3 + 2, none⟩ = some ts[k].2 := by
  obtain ⟨_, _, h3⟩ := own_len h
  obtain ⟨g, rfl, hb, hg, hc⟩ := h3 (by omega)
  have hfl := flat_get (fun x : Pm.Tk × Value => [.int .i64 x.1.rule, .string (Pm.stateW sts x.1.row), x.2]) 3 (fun _ => rfl) ts k
  refine ⟨g, rfl, hb, hg, hc, ?_, ?_, ?_⟩
  · exact own_cell h (by have := hfl 0 hk (by omega); simpa [rtC] using this)
  · exact own_cell h (by have := hfl 1 hk (by omega); simpa [rtC] using this)
  · exact own_cell h (by have := hfl 2 hk (by omega); simpa [rtC] using this)
theorem map_same {xs ys : List (Pm.Tk × Value)} (h : xs.map (·.1) = ys.map (·.1)) (k : Nat) (hk : k < xs.length) (hk2 : k < ys.length) : ys[k].1 = xs[k].1 := by
  have h1 : (ys.map (·.1))[k]? = (xs.map (·.1))[k]? := by rw [h]
  rw [List.getElem?_map, List.getElem?_map, List.getElem?_eq_getElem hk, List.getElem?_eq_getElem hk2] at h1
  simpa using h1
/-- The document's answer stands, whatever is written into the other one. -/
theorem RTakC.keptOut {wS w w' : World} {base S1 S2 : Nat} {v : Value} {sts : List Pm.St} {tks : List Pm.Tk} (h : RTakC wS w base v sts tks) (hk : KeptOut S1 S2 w w') (hb : S2 ≤ base) : RTakC wS w' base v sts tks := by
  obtain ⟨xs, h1, h2, h3⟩ := h
  exact ⟨xs, h1, ownsRow_same h2 (fun k hk1 hk2 => hk.block k hk2 (.inr (by omega))), fun x hx => (h3 x hx).imp id fun h => ownsRow_same h (fun k hk1 hk2 => hk.block k hk2 (.inr (by omega)))⟩
end Go.Proofs.YtcijookbgliglaaDoor
