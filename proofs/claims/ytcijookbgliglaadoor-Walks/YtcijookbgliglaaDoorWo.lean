import Derived.Test.YtcijookbgliglaaDoorWb
/- Worlds: what a call leaves as it was; the document's pen in memory. -/
namespace Go.Proofs.YtcijookbgliglaaDoor
open Go.RowKit

/-- Of what was there only block b may have turned. -/
structure Kept (b : Nat) (w w' : World) : Prop where
  os : w'.os = w.os
  tape : w'.tape = w.tape
  output : w'.output = w.output
  size : w.heap.size ≤ w'.heap.size
  block : ∀ k, k < w.heap.size → k ≠ b → w'.heap[k]? = w.heap[k]?

theorem Kept.refl (b : Nat) (w : World) : Kept b w w := ⟨rfl, rfl, rfl, Nat.le_refl _, fun _ _ _ => rfl⟩
theorem Kept.trans {b : Nat} {u v w : World} (h : Kept b u v) (k : Kept b v w) : Kept b u w :=
  ⟨k.os.trans h.os, k.tape.trans h.tape, k.output.trans h.output, Nat.le_trans h.size k.size, fun i hi hb => (k.block i (Nat.lt_of_lt_of_le hi h.size) hb).trans (h.block i hi hb)⟩
theorem Kept.of_below {w w' : World} (b : Nat) (h : Below w.heap.size w w') : Kept b w w' := ⟨h.os, h.tape, h.output, h.size, fun k hk _ => h.block k hk⟩
theorem Kept.below {w w' : World} {b : Nat} (h : Kept b w w') (hb : w.heap.size ≤ b) : Below w.heap.size w w' := ⟨h.os, h.tape, h.output, h.size, fun k hk => h.block k hk (by omega)⟩
theorem Kept.belowB {w w' : World} {b B : Nat} (h : Kept b w w') (hb : B ≤ b) (hw : B ≤ w.heap.size) : Below B w w' := ⟨h.os, h.tape, h.output, h.size, fun k hk => h.block k (by omega) (by omega)⟩
theorem Kept.setCell {w w' : World} {b : Nat} (h : Kept b w w') (o : Nat) (v : Value) : Kept b w (w'.setCell ⟨b, o, none⟩ v) :=
  ⟨h.os, h.tape, h.output, by have := h.size; simpa [World.setCell] using this, fun k hk hb => (Below.heap_setCell _ _ _ _ (by exact hb)).trans (h.block k hk hb)⟩
theorem Kept.setNew {w w' : World} {b : Nat} (h : Kept b w w') (p : Addr) (hp : w.heap.size ≤ p.block) (v : Value) : Kept b w (w'.setCell p v) :=
  ⟨h.os, h.tape, h.output, by have := h.size; simpa [World.setCell] using this, fun k hk hb => (Below.heap_setCell _ _ _ _ (by omega)).trans (h.block k hk hb)⟩
theorem Kept.alloc {w w' : World} {b : Nat} (h : Kept b w w') (o : Obj) : Kept b w (w'.alloc o) :=
  ⟨h.os, h.tape, h.output, by have := h.size; simp; omega, fun k hk hb => (Below.heap_alloc _ _ _ (by have := h.size; omega)).trans (h.block k hk hb)⟩
theorem Kept.drew {w w' : World} {b : Nat} (h : Kept b w w') : Kept b w w'.drew := ⟨h.os, h.tape, h.output, h.size, h.block⟩
theorem Kept.cell {w w' : World} {b : Nat} (h : Kept b w w') {p : Addr} (hp : p.block < w.heap.size) (hb : p.block ≠ b) : w'.cell? p = w.cell? p := World.cell?_of_block (w := w) (h.block p.block hp hb)
theorem Kept.frozen {w w' : World} {b : Nat} (h : Kept b w w') {p : Addr} (hp : p.block < w.heap.size) (hb : p.block ≠ b) : w'.frozen? p = w.frozen? p := World.frozen?_of_block (w := w) (h.block p.block hp hb)

/-- The document's pen lies in block b. -/
def PenAt (w : World) (b : Nat) (s : ByteArray) (g : Pm.Sg) (bad : Int) : Prop :=
  w.heap[b]? = some (.cells #[.string s, .int .u8 g.k, .string g.t, .int .i64 (g.at_ : Int), .int .i64 (g.to_ : Int), .int .i64 bad] 86 (0, 0))

theorem PenAt.lt {w : World} {b : Nat} {s : ByteArray} {g : Pm.Sg} {bad : Int} (h : PenAt w b s g bad) : b < w.heap.size := (Array.getElem?_eq_some_iff.1 h).1
theorem PenAt.cells {w : World} {b : Nat} {s : ByteArray} {g : Pm.Sg} {bad : Int} (h : PenAt w b s g bad) :
    w.cell? ⟨b, 0, none⟩ = some (.string s) ∧ w.cell? ⟨b, 1, none⟩ = some (.int .u8 g.k) ∧ w.cell? ⟨b, 2, none⟩ = some (.string g.t) ∧ w.cell? ⟨b, 3, none⟩ = some (.int .i64 (g.at_ : Int)) ∧ w.cell? ⟨b, 4, none⟩ = some (.int .i64 (g.to_ : Int)) ∧ w.cell? ⟨b, 5, none⟩ = some (.int .i64 bad) := by
  unfold PenAt at h
  simp [World.cell?, h]
theorem PenAt.frozen {w : World} {b : Nat} {s : ByteArray} {g : Pm.Sg} {bad : Int} (h : PenAt w b s g bad) : ∀ o, w.frozen? ⟨b, o, none⟩ = false := by
  unfold PenAt at h
  intro o
  simp [World.frozen?, h]
theorem PenAt.same {w w' : World} {b : Nat} {s : ByteArray} {g : Pm.Sg} {bad : Int} (h : PenAt w b s g bad) (e : w'.heap[b]? = w.heap[b]?) : PenAt w' b s g bad := e.trans h
theorem PenAt.below {w w' : World} {b : Nat} {s : ByteArray} {g : Pm.Sg} {bad : Int} (h : PenAt w b s g bad) (e : Below w.heap.size w w') : PenAt w' b s g bad := h.same (e.block b h.lt)
theorem PenAt.bad {w : World} {b : Nat} {s : ByteArray} {g : Pm.Sg} {bad : Int} (h : PenAt w b s g bad) (x : Int) : PenAt (w.setCell ⟨b, 5, none⟩ (.int .i64 x)) b s g x := by
  unfold PenAt at h ⊢
  simp [World.setCell, Array.getElem?_modify, h]
theorem PenAt.sign {w : World} {b : Nat} {s : ByteArray} {g : Pm.Sg} {bad : Int} (h : PenAt w b s g bad) (g' : Pm.Sg) :
    PenAt ((((w.setCell ⟨b, 1, none⟩ (.int .u8 g'.k)).setCell ⟨b, 2, none⟩ (.string g'.t)).setCell ⟨b, 3, none⟩ (.int .i64 (g'.at_ : Int))).setCell ⟨b, 4, none⟩ (.int .i64 (g'.to_ : Int))) b s g' bad := by
  unfold PenAt at h ⊢
  simp [World.setCell, Array.getElem?_modify, h]

theorem PenAt.other {w : World} {b : Nat} {s : ByteArray} {g : Pm.Sg} {bad : Int} (h : PenAt w b s g bad) (p : Addr) (hp : b ≠ p.block) (v : Value) : PenAt (w.setCell p v) b s g bad := h.same (Below.heap_setCell _ _ _ _ hp)
theorem PenAt.other4 {w : World} {b : Nat} {s : ByteArray} {g : Pm.Sg} {bad : Int} (h : PenAt w b s g bad) (k : Nat) (hp : b ≠ k) (v0 v1 v2 v3 : Value) :
    PenAt ((((w.setCell ⟨k, 0, none⟩ v0).setCell ⟨k, 1, none⟩ v1).setCell ⟨k, 2, none⟩ v2).setCell ⟨k, 3, none⟩ v3) b s g bad :=
  (((h.other ⟨k, 0, none⟩ hp v0).other ⟨k, 1, none⟩ hp v1).other ⟨k, 2, none⟩ hp v2).other ⟨k, 3, none⟩ hp v3
theorem Kept.set4 {w w' : World} {b : Nat} (h : Kept b w w') (o1 o2 o3 o4 : Nat) (v0 v1 v2 v3 : Value) :
    Kept b w ((((w'.setCell ⟨b, o1, none⟩ v0).setCell ⟨b, o2, none⟩ v1).setCell ⟨b, o3, none⟩ v2).setCell ⟨b, o4, none⟩ v3) :=
  (((h.setCell o1 v0).setCell o2 v1).setCell o3 v2).setCell o4 v3
theorem Kept.new4 {w w' : World} {b : Nat} (h : Kept b w w') (k : Nat) (hk : w.heap.size ≤ k) (v0 v1 v2 v3 : Value) :
    Kept b w ((((w'.setCell ⟨k, 0, none⟩ v0).setCell ⟨k, 1, none⟩ v1).setCell ⟨k, 2, none⟩ v2).setCell ⟨k, 3, none⟩ v3) :=
  (((h.setNew ⟨k, 0, none⟩ hk v0).setNew ⟨k, 1, none⟩ hk v1).setNew ⟨k, 2, none⟩ hk v2).setNew ⟨k, 3, none⟩ hk v3
theorem two_new (w : World) (o1 o2 : Obj) : ((w.alloc o1).alloc o2).heap[w.heap.size]? = some o1 ∧ ((w.alloc o1).alloc o2).heap[w.heap.size + 1]? = some o2 := by
  constructor
  · rw [Below.heap_alloc _ _ _ (by simp)]; exact heap_alloc_new w o1
  · have h := heap_alloc_new (w.alloc o1) o2
    simpa using h
theorem blk4 {w : World} {k : Nat} {a b c d : Value} {T : TypeId} (h : w.heap[k]? = some (.cells #[a, b, c, d] T (0, 0))) :
    w.cell? ⟨k, 0, none⟩ = some a ∧ w.cell? ⟨k, 1, none⟩ = some b ∧ w.cell? ⟨k, 2, none⟩ = some c ∧ w.cell? ⟨k, 3, none⟩ = some d ∧ ∀ o, w.frozen? ⟨k, o, none⟩ = false := by
  simp [World.cell?, World.frozen?, h]

end Go.Proofs.YtcijookbgliglaaDoor
