import Derived.Test.YtcijookbgliglaaDoorXa
import Derived.Test.YtcijookbgliglaaDoorPq
/- Lists of texts and of what happens, wherever they lie. -/
namespace Go.Proofs.YtcijookbgliglaaDoor
open Go.RowKit

/-- A slice of texts, wherever it lies. -/
def StrsA (w : World) (v : Value) (l : List ByteArray) : Prop :=
  ∃ (a : Option Addr) (c : Nat), v = .slice a l.length c ∧ l.length ≤ c ∧ c ≤ 9223372036854775807 ∧ ∀ (i : Nat) (h : i < l.length), ∃ b o, a = some ⟨b, o, none⟩ ∧ w.cell? ⟨b, o + i, none⟩ = some (.string l[i])
theorem StrsA.below {w w' : World} {v : Value} {l : List ByteArray} (h : StrsA w v l) {B : Nat} (hb : Below B w w') (hB : w.heap.size ≤ B) : StrsA w' v l := by
  obtain ⟨a, c, h1, h2, h3, h4⟩ := h
  refine ⟨a, c, h1, h2, h3, fun i hi => ?_⟩
  obtain ⟨b, o, h5, h6⟩ := h4 i hi
  have := World.block_lt_of_cell? w _ h6
  exact ⟨b, o, h5, (hb.cell (p := ⟨b, o + i, none⟩) (by simp at this ⊢; omega)).trans h6⟩
abbrev Hp := ByteArray × List ByteArray
/-- A list of things that happen, wherever it lies: two cells each. -/
def HapsA (w : World) (v : Value) (l : List Hp) : Prop :=
  ∃ (a : Option Addr) (c : Nat), v = .slice a l.length c ∧ l.length ≤ c ∧ c ≤ 9223372036854775807 ∧ ∀ (i : Nat) (h : i < l.length), ∃ b o hv, a = some ⟨b, o, none⟩ ∧ w.cell? ⟨b, o + i * 2, none⟩ = some (.string l[i].1) ∧ w.cell? ⟨b, o + i * 2 + 1, none⟩ = some hv ∧ StrsA w hv l[i].2 ∧ l[i].1.size ≤ maxLen
theorem HapsA.below {w w' : World} {v : Value} {l : List Hp} (h : HapsA w v l) {B : Nat} (hb : Below B w w') (hB : w.heap.size ≤ B) : HapsA w' v l := by
  obtain ⟨a, c, h1, h2, h3, h4⟩ := h
  refine ⟨a, c, h1, h2, h3, fun i hi => ?_⟩
  obtain ⟨b, o, hv, h5, h6, h7, h8, h9⟩ := h4 i hi
  have := World.block_lt_of_cell? w _ h6
  exact ⟨b, o, hv, h5, (hb.cell (p := ⟨b, o + i * 2, none⟩) (by simp at this ⊢; omega)).trans h6, (hb.cell (p := ⟨b, o + i * 2 + 1, none⟩) (by simp at this ⊢; omega)).trans h7, h8.below hb hB, h9⟩
theorem HapsA.take {w : World} {a : Option Addr} {n c : Nat} {l : List Hp} (h : HapsA w (.slice a n c) l) (m : Nat) (hm : m ≤ l.length) : HapsA w (.slice a m c) (l.take m) := by
  obtain ⟨a', c', h1, h2, h3, h4⟩ := h
  simp only [Value.slice.injEq] at h1
  obtain ⟨rfl, _, rfl⟩ := h1
  have hl : (l.take m).length = m := by rw [List.length_take]; omega
  refine ⟨a, c, by rw [hl], by omega, h3, fun i hi => ?_⟩
  rw [hl] at hi
  obtain ⟨b, o, hv, h5, h6, h7, h8, h9⟩ := h4 i (by omega)
  refine ⟨b, o, hv, h5, ?_, h7, ?_, ?_⟩
  · rw [List.getElem_take]; exact h6
  · rw [List.getElem_take]; exact h8
  · rw [List.getElem_take]; exact h9
theorem StrsA.of_own {w : World} {base : Nat} {T : TypeId} {v : Value} {l : List ByteArray} (h : w.ownsRow base T 1 v l.length (l.map Value.string)) : StrsA w v l := by
  rcases own_shape h with ⟨rfl, hn⟩ | ⟨g, cap, rfl, hb, hg, h1, h2⟩
  · exact ⟨none, 0, by rw [hn], by omega, by omega, fun i hi => by omega⟩
  · refine ⟨_, cap, rfl, h1, by unfold maxLen at h2; omega, fun i hi => ⟨g, 0, rfl, ?_⟩⟩
    have := own_cell h (j := i) (u := .string l[i]) (by rw [List.getElem?_map, List.getElem?_eq_getElem hi]; rfl)
    simpa using this
/-- A new list of texts. -/
def NewS (w : World) (base : Nat) (v : Value) (l : List ByteArray) : Prop := w.ownsRow base 9 1 v l.length (l.map Value.string)
theorem NewS.strs {w : World} {base : Nat} {v : Value} {l : List ByteArray} (h : NewS w base v l) : StrsA w v l := StrsA.of_own h
theorem NewS.below {w w' : World} {base : Nat} {v : Value} {l : List ByteArray} (h : NewS w base v l) (hb : Below w.heap.size w w') : NewS w' base v l := ownsRow_same h (fun k _ h2 => hb.block k h2)
theorem NewS.base {w : World} {base base' : Nat} {v : Value} {l : List ByteArray} (h : NewS w base v l) (hb : base' ≤ base) : NewS w base' v l := ownsRow_base h hb
theorem NewS.nil (w : World) (base : Nat) : NewS w base (.slice none 0 0) [] := ⟨rfl, .inl ⟨rfl, rfl⟩⟩
theorem acCells_words (acs : List Pm.Ac) : acCells acs = (acs.map (·.word)).map Value.string := by simp [acCells]
end Go.Proofs.YtcijookbgliglaaDoor
