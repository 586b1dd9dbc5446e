import Derived.Test.YtcijookbgliglaaDoorZG
import Derived.Test.YtcijookbgliglaaDoorRows
import Derived.Test.YtcijookbgliglaaDoorTie
import Derived.Test.YtcijookbgliglaaDoorCards
import Derived.ProofKit
import Derived.LaidLaws
import Derived.LaidHandle
import Derived.OpenShut
import Derived.Stop.Joined
import Derived.Lib.LaidTab
import Derived.SevenTiedAt
import Derived.Test.YtcijookbgliglaaDoorTa
import Derived.Deep.SlicePairs
import Derived.SliceStrings
import Derived.Carry
import Derived.Test.YtcijookbgliglaaDoorUd
import Derived.SizedLaws
import Derived.Deep.DeepHandedRow
/- The row of Compiles, and its card. -/
namespace Go.Proofs.YtcijookbgliglaaDoor
open Go.ChangeShapes Go.WideShapes Go.ChangeAt Go.RowKit
open Go.ChangeMaps (open_string shut_string)

theorem own_ : ownKnob Tryd.prog.godebug = none := by kernel_rfl
theorem gErr : Tryd.prog.globalNamed "parley/parley.flawErrno" = some 0 := by kernel_rfl
theorem gErrType : (Tryd.prog.globals[0]?).map (·.type) = some 53 := by kernel_rfl
theorem underErrs : Tryd.prog.underlying 53 = some (.array 8 23) := by kernel_rfl
theorem underErr : Tryd.prog.underlying 23 = some (.int .i64) := by kernel_rfl
theorem cellsErr : Tryd.prog.cellsOf 23 = 1 := by kernel_rfl
theorem cellsErrs : Tryd.prog.cellsOf 53 = 8 := by kernel_rfl
theorem underBool : Tryd.prog.underlying 4 = some .bool := by kernel_rfl

theorem tab_of_laid {W : World} (h : laidMetH Tryd.prog Rows.compilesRow.laid W) : Tab W := by
  have h' : laidMet Tryd.prog [("parley/parley.flawErrno", Lib.tabData .i64 [0, 2, 3, 4, 5, 6, 7, 8])] W := h
  have hT := Lib.tabIs_of_head gErr gErrType underErrs underErr cellsErr cellsErrs h'
  intro j h1 h7
  rw [hT.cell gErr j (by simp; omega)]
  obtain rfl | rfl | rfl | rfl | rfl | rfl | rfl : j = 1 ∨ j = 2 ∨ j = 3 ∨ j = 4 ∨ j = 5 ∨ j = 6 ∨ j = 7 := by omega
  all_goals rfl
/-- A world that meets the condition: the settled one, the variable's cells laid. -/
noncomputable def laidWorld (os : Os) : World :=
  let w0 := World.holding Tryd.prog os ⟨#[], #[], []⟩
  { w0 with heap := w0.heap.modify 0 fun
      | .cells _ t frozen => .cells #[.int .i64 0, .int .i64 2, .int .i64 3, .int .i64 4, .int .i64 5, .int .i64 6, .int .i64 7, .int .i64 8] t frozen
      | o => o }
theorem door_met (os : Os) (args : Array Value) : laidMetH Tryd.prog Rows.compilesRow.laid ((laidWorld os).forCall (fun _ _ => 0) ⟨#[], args, []⟩).memory :=
  laidMetH_of_parts (laidMet_of_run' 8 (by kernel_rfl) (by kernel_rfl)) (by kernel_rfl)

set_option maxRecDepth 100000 in
theorem compiles_lifted (os : Os) (started : os.Started) (H : Type) (enc : TypeId × Value → H) :
    ReturnsInHanded {} Tryd.checked os 3 .any (fun w args => (Rows.compilesSpec.pre enc Tryd.prog Tryd.f3 [] false w args ∧ laidMetH Tryd.prog Rows.compilesRow.laid w) ∧ sizedMet enc Tryd.prog Tryd.f3 (OpenSpec.ofChange Rows.compilesSpec) false w args)
      (Rows.compilesSpec.post enc Tryd.prog Tryd.f3 false true false false) := by
  refine returnsInHanded_of_change_and (C := Tryd.checked) (X := fun w _ => laidMetH Tryd.prog Rows.compilesRow.laid w) (fun _ _ _ hh h => h.of_heap hh) own_ started (by kernel_rfl) Tryd.func3
    (ChangeSpec.witness_at (enc := enc) (C := Tryd.checked) (os := os) (X := fun w _ => laidMetH Tryd.prog Rows.compilesRow.laid w) false (laidWorld os) #[.string ⟨#[]⟩] 8 rfl (by kernel_rfl) (by kernel_rfl) (by kernel_rfl) (by kernel_rfl) (by kernel_rfl) (door_met os _)) ?_
  intro W base args ds gs before hval0 hW _ _ hL _
  have hval : ∀ (j : Nat) t v, Tryd.f3.params[j]? = some t → args[j]? = some v → Value.okWide Tryd.prog W .any base t v := hval0
  have hW' := hW
  obtain ⟨p, q, hA0, hV, rfl, hfz, hnd⟩ := hW
  have hA : DataW.TrodAll enc Tryd.prog W 0 (fun _ => true) true Tryd.f3.params.toList args.toList ds p := hA0
  rw [Tryd.params3] at hA hval
  obtain ⟨v0, d0, rfl, rfl, h0⟩ := trodAll_one hA
  obtain ⟨rfl, rfl⟩ := trodVars_none hV
  obtain ⟨s, rfl, rfl, rfl, hs⟩ := open_string Tryd.underlyingStr (hval 0 9 v0 rfl rfl) h0
  have hT := tab_of_laid hL
  clear hA0 hval0
  simp only [List.append_nil] at hW'
  refine (compiles_any W s hT).mono fun e W' ⟨he, hw⟩ => ?_
  subst he
  have e1 : Rows.compilesSpec.fn H ([.lit (.string s.data.toList)] ++ []) = { results := [.lit (.bool true)], args := [.lit (.string s.data.toList)] } := by simp [Rows.compilesSpec]
  refine ⟨_, rfl, _, _, _, [], [], [], hW', ?_, ?_, ?_, hw.frame _, fun h => by cases h⟩
  · rw [e1]; exact trodAll_mk1 (shut_bool underBool true)
  · rw [e1]; exact trodAll_mk1 (shut_string Tryd.underlyingStr hs)
  · rw [e1]; rfl

theorem compiles_holds : Rows.CompilesSaid :=
  OpenClaim.holds_of_wide 3 Tryd.f3 rfl rfl rfl rfl rfl rfl rfl ⟨rfl, rfl, rfl, rfl, rfl⟩ rfl rfl rfl rfl rfl (by kernel_rfl) Tryd.func3 (by kernel_rfl)
    (of_decide_eq_true (by kernel_rfl)) (by unfold Func.isWrapper; first | (rw [if_pos (by decide +kernel)]; kernel_rfl) | (rw [if_neg (by decide +kernel)]; exact ⟨rfl, rfl⟩))
    (fun os started H enc _ => compiles_lifted os started H enc)
end Go.Proofs.YtcijookbgliglaaDoor

/- A list of steps that is an argument, opened. -/
namespace Go.Proofs.YtcijookbgliglaaDoor
open Go.ChangeShapes Go.WideShapes Go.RowKit Go.Deep

theorem underText : Tryd.prog.underlying 9 = some .string := by kernel_rfl
theorem underTexts : Tryd.prog.underlying 33 = some (.slice 9) := by kernel_rfl
theorem cellsText : Tryd.prog.cellsOf 9 = 1 := by kernel_rfl
theorem cellsTexts : Tryd.prog.cellsOf 33 = 1 := by kernel_rfl
theorem underStepsL : Tryd.prog.underlying 31 = some (.slice 35) := by kernel_rfl
theorem cellsStepL : Tryd.prog.cellsOf 35 = 2 := by kernel_rfl
theorem bytesStepL : Tryd.prog.bytesOf 35 = 40 := by kernel_rfl
theorem underStepL : ∃ f0 f1 : Field, Tryd.prog.underlying 35 = some (.struct #[f0, f1]) ∧ f0.offset = 0 ∧ f1.offset = 1 ∧ f0.type = 9 ∧ f1.type = 33 := by
  have h : (Tryd.prog.underlying 35).map (fun d => match d with | .struct fs => fs.toList.map (fun f => (f.offset, f.type)) | _ => []) = some [(0, 9), (1, 33)] := by kernel_rfl
  cases e : Tryd.prog.underlying 35 with
  | none => rw [e] at h; simp at h
  | some d =>
    rw [e] at h
    cases d with
    | struct fs =>
      obtain ⟨l⟩ := fs
      match l, h with
      | [], h => simp at h
      | [f0], h => simp at h
      | [f0, f1], h =>
        simp at h
        exact ⟨f0, f1, rfl, h.1.1, h.2.1, h.1.2, h.2.2⟩
      | _ :: _ :: _ :: _, h => simp at h
    | _ => simp at h

section
variable {H : Type} {enc : TypeId × Value → H} {W : World} {base : Nat} {held : Bool}
theorem strs_of_trod {fuel : Nat} {v : Value} {x : DataW H × List MemPlace} (h : DataW.trod enc Tryd.prog W base (fun _ => true) held fuel 33 [v] = some x) : ∃ l, StrsA W v l := by
  rcases open_strings underTexts underText cellsText h with ⟨hcs, -⟩ | ⟨a, len, cap, ss, hcs, _, hl, hm, hz, hx, hcell, hsz⟩
  · simp at hcs; subst hcs
    exact ⟨[], none, 0, rfl, Nat.le_refl _, by omega, fun i hi => by simp at hi⟩
  · simp at hcs; subst hcs
    rw [if_pos rfl] at hz
    have hlen : (ss.take len).length = len := by rw [List.length_take]; omega
    refine ⟨ss.take len, some a, cap, by rw [hlen], by omega, by unfold maxLen at hm; omega, fun i hi => ?_⟩
    rw [hlen] at hi
    have h0 := hcell 0 (by omega)
    have hsp : a.spot = none := by
      have := World.cell?_spot h0
      simpa [Addr.add] using this
    obtain ⟨b, o, sp⟩ := a
    simp at hsp
    subst hsp
    refine ⟨b, o, rfl, ?_⟩
    have h1 := hcell i (by omega)
    rw [add_plain] at h1
    rw [h1, List.getElem_take, List.getD_eq_getElem?_getD, List.getElem?_eq_getElem (by omega)]
    rfl
theorem haps_of_trod {fuel : Nat} {v : Value} {x : DataW H × List MemPlace} (h : DataW.trod enc Tryd.prog W base (fun _ => true) held fuel 31 [v] = some x) :
    ∃ l : List Hp, HapsA W v l ∧ (l = [] ∨ ∃ elems spare, x.1 = .slice elems spare ∧ elems.length = l.length) := by
  obtain ⟨f0, f1, hu, o0, o1, t0, t1⟩ := underStepL
  rcases open_slice_pairs underStepsL hu cellsStepL o0 o1 (by rw [t0]; exact cellsText) (by rw [t1]; exact cellsTexts) h with ⟨hcs, -⟩ | ⟨a, len, cap, m, n, V0, V1, D0, D1, P0, P1, hcs, _, hl, hm, hmm, hx, hat⟩
  · simp at hcs; subst hcs
    exact ⟨[], ⟨none, 0, rfl, Nat.le_refl _, by omega, fun i hi => by simp at hi⟩, .inl rfl⟩
  · simp at hcs; subst hcs
    rw [if_pos rfl] at hmm
    subst hmm
    have each : ∀ i, i < len → ∃ q : Hp, V0 i = .string q.1 ∧ q.1.size ≤ maxLen ∧ StrsA W (V1 i) q.2 := by
      intro i hi
      obtain ⟨_, _, h3, h4⟩ := hat i (by omega)
      rw [t0] at h3
      rw [t1] at h4
      obtain ⟨s, hs, _, hw⟩ := DataW.trod_string underText h3
      obtain ⟨l, hl⟩ := strs_of_trod h4
      simp at hs
      exact ⟨(s, l), hs, hw, hl⟩
    obtain ⟨q, hq⟩ := choose_lt each
    have hlen : ((List.range len).map q).length = len := by simp
    refine ⟨(List.range len).map q, ⟨some a, m, by rw [hlen], by rw [hlen]; exact hl, by unfold maxLen at hm; omega, fun i hi => ?_⟩, .inr ⟨_, _, by rw [hx], by simp⟩⟩
    rw [hlen] at hi
    have h0 := (hat 0 (by omega)).1
    have hsp : a.spot = none := by
      have := World.cell?_spot h0
      simpa [Addr.add] using this
    obtain ⟨b, o, sp⟩ := a
    simp at hsp
    subst hsp
    obtain ⟨g1, g2, _, _⟩ := hat i (by omega)
    rw [add_plain] at g1 g2
    obtain ⟨e1, e2, e3⟩ := hq i hi
    refine ⟨b, o, V1 i, rfl, ?_, ?_, ?_, ?_⟩
    · rw [g1, e1]; simp
    · rw [← g2]; rfl
    · simpa using e3
    · simpa using e2
end
theorem wf_bounds {n : Int} (h : (Lit.int .i64 n).wf = true) : -9223372036854775808 ≤ n ∧ n ≤ 9223372036854775807 := by
  simp [Lit.wf] at h
  have h2 : IntKind.i64.min = -9223372036854775808 := by decide
  rw [h2] at h
  exact h
end Go.Proofs.YtcijookbgliglaaDoor

/- The row of Walks, and its card. -/
namespace Go.Proofs.YtcijookbgliglaaDoor
open Go.ChangeShapes Go.WideShapes Go.ChangeAt Go.RowKit
open Go.ChangeMaps (open_string shut_string)

theorem laidOutP : laidOutB Tryd.prog = true := by kernel_rfl
set_option maxRecDepth 100000 in
theorem walks_contract (H : Type) (enc : TypeId × Value → H) (W : World) (base : Nat) (args : Array Value) (ds gs : List (DataW H)) (before : List MemPlace)
    (hval : ∀ (j : Nat) t v, Tryd.f4.params[j]? = some t → args[j]? = some v → Value.okWide Tryd.prog W .any base t v)
    (hW : DataW.Whole enc Tryd.prog Tryd.f4.params.toList Rows.walksSpec.vars false W args.toList ds gs before)
    (hsz0 : (DataW.weightsEach Tryd.prog (Tryd.f4.params.toList ++ (OpenSpec.ofChange Rows.walksSpec).bare.plain.varTypes Tryd.prog) (ds ++ gs)).all (· ≤ reachBytes) = true)
    (hL : laidMetH Tryd.prog Rows.walksRow.laid W) :
    Calls Tryd.prog 4 args W fun e W' => ∃ v, e = .returned v ∧ Rows.walksSpec.post enc Tryd.prog Tryd.f4 false true false false W args v W' := by
  have hW' := hW
  obtain ⟨p, q, hA0, hV, rfl, hfz, hnd⟩ := hW
  have hA : DataW.TrodAll enc Tryd.prog W 0 (fun _ => true) true Tryd.f4.params.toList args.toList ds p := hA0
  rw [Tryd.params4] at hA hval hsz0
  obtain ⟨v0, v1, d0, d1, p0, p1, rfl, rfl, rfl, h0, h1⟩ := trodAll_two hA
  obtain ⟨rfl, rfl⟩ := trodVars_none hV
  obtain ⟨s, rfl, rfl, rfl, hs⟩ := open_string Tryd.underlyingStr (hval 0 9 v0 rfl rfl) h0
  obtain ⟨a, len, cap, rfl⟩ := okWide_slice underStepsL (hval 1 31 v1 rfl rfl)
  have h1k := h1
  obtain ⟨fuel, hf⟩ := h1
  obtain ⟨l, hl, hd⟩ := haps_of_trod hf
  have hlen : l.length * 40 ≤ 140737488351232 := by
    rcases hd with rfl | ⟨elems, spare, hd, he⟩
    · simp
    · simp only at hd
      subst hd
      have := sized_slice hsz0 (j := 1) (t := 31) (e := 35) rfl rfl underStepsL
      rw [bytesStepL] at this
      unfold reachBytes at this
      omega
  have hT : Tab W := tab_of_laid hL
  have hlt : ∀ x ∈ p1, x.block < W.heap.size := fun x hx => by
    have := hW'.lt x (by simp [hx])
    simpa using this
  clear hA0
  simp only [List.append_nil] at hW'
  refine (walks_any W s (.slice a len cap) l hT hl hlen).mono fun e W' ⟨he, hw⟩ => ?_
  subst he
  have e1 : Rows.walksSpec.fn H ([.lit (.string s.data.toList), d1] ++ []) = { results := [.lit (.bool true)], args := [.lit (.string s.data.toList), d1] } := by simp [Rows.walksSpec]
  refine ⟨_, rfl, _, _, _, [], [] ++ p1, [], hW', ?_, ?_, ?_, hw.frame _, fun h => by cases h⟩
  · rw [e1]; exact trodAll_mk1 (shut_bool underBool true)
  · rw [e1]; exact trodAll_mk2 (shut_string Tryd.underlyingStr hs) (Below.trod laidOutP (by kernel_rfl) (of_decide_eq_true (by kernel_rfl)) h1k hw hlt)
  · rw [e1]; rfl
theorem walks_laid (os : Os) : laidMet Tryd.prog Rows.walksRow.laid ((laidWorld os).forCall (fun _ _ => 0) ⟨#[], #[.string ⟨#[]⟩, .slice none 0 0], []⟩).memory :=
  laidMet_of_run' 8 (by kernel_rfl) (by kernel_rfl)
theorem walks_reads (os : Os) {H : Type} (enc : TypeId × Value → H) : ∃ places, DataW.whole enc Tryd.prog ((laidWorld os).forCall (fun _ _ => 0) ⟨#[], #[.string ⟨#[]⟩, .slice none 0 0], []⟩).memory Tryd.f4.params.toList Rows.walksSpec.vars false #[Value.string ⟨#[]⟩, .slice none 0 0].toList 8 = some ([.lit (.string []), .nil], [], places) :=
  ⟨[], by kernel_rfl⟩
set_option maxRecDepth 100000 in
theorem walks_lifted (os : Os) (started : os.Started) (H : Type) (enc : TypeId × Value → H) (F : Stop.Interp) :
    ReturnsInHanded {} Tryd.checked os 4 .any ((OpenSpec.ofChange Rows.walksSpec).preRow enc Tryd.prog Tryd.f4 Rows.walksRow.domain false Rows.walksRow.laid) (((OpenSpec.ofChange Rows.walksSpec).at F).post enc Tryd.prog Tryd.f4 false true false false) := by
  obtain ⟨places, hx⟩ := walks_reads os enc
  refine returnsInHanded_of_row (C := Tryd.checked) (s := OpenSpec.ofChange Rows.walksSpec) own_ started (by kernel_rfl) Tryd.func4
    (witness_row_at (enc := enc) (C := Tryd.checked) false (laidWorld os) #[.string ⟨#[]⟩, .slice none 0 0] rfl (by kernel_rfl) (by kernel_rfl) (by kernel_rfl)
      (OpenSpec.preRow_of_cond 8 hx (by kernel_rfl) (fun k hk => by cases hk) (by kernel_rfl) (walks_laid os))) ?_
  intro W base args ds gs before hval hW _ _ hsz hL _ _
  exact walks_contract H enc W base args ds gs before hval hW hsz hL
theorem walks_holds : Rows.WalksSaid :=
  OpenClaim.holds_of_cond 4 Tryd.f4 rfl rfl rfl rfl rfl rfl rfl ⟨rfl, rfl, rfl, rfl, rfl⟩ rfl rfl rfl rfl rfl (by kernel_rfl) Tryd.func4 (by kernel_rfl)
    (of_decide_eq_true (by kernel_rfl)) (by unfold Func.isWrapper; first | (rw [if_pos (by decide +kernel)]; kernel_rfl) | (rw [if_neg (by decide +kernel)]; exact ⟨rfl, rfl⟩))
    (fun os started H enc _ F => by rw [OpenClaim.pre_eq_preRow]; exact walks_lifted os started H enc F)
theorem walks_plain (f : FuncId) (fn : Func) (hf : Tryd.pinned.checked.prog.funcNamed "parley/parleylaw.Walks" = some f) (hfn : Tryd.pinned.checked.prog.funcs[f]? = some fn) :
    true = Tryd.pinned.checked.prog.looks [] ∧ ∀ (j : Nat) t, fn.params[j]? = some t → Tryd.pinned.checked.prog.wantsStandIn t = false := by
  obtain rfl : f = 4 := Option.some.inj ((show Tryd.prog.funcNamed "parley/parleylaw.Walks" = some 4 by kernel_rfl).symm.trans hf) |>.symm
  obtain rfl : fn = Tryd.f4 := (Option.some.inj (Tryd.func4.symm.trans hfn)).symm
  refine ⟨by kernel_rfl, fun j t ht => ?_⟩
  rw [Tryd.params4] at ht
  rcases j with _ | _ | j
  · obtain rfl : t = 9 := by simpa using ht.symm
    exact (show Tryd.prog.wantsStandIn 9 = false by kernel_rfl)
  · obtain rfl : t = 31 := by simpa using ht.symm
    exact (show Tryd.prog.wantsStandIn 31 = false by kernel_rfl)
  · simp at ht
theorem walks_card : Rows.WalksCardSaid :=
  Claim7.holds_tied_plain_at .later [] _ _ _ _ walks_holds (fun _ h => by cases h) (by kernel_rfl) (fun _ h => by cases h) walks_row_tie rfl ⟨rfl, rfl⟩ (by kernel_rfl) rfl walks_plain (by kernel_rfl)
end Go.Proofs.YtcijookbgliglaaDoor
