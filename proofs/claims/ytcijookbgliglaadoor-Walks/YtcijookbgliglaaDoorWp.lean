import Derived.Test.YtcijookbgliglaaDoorWr
/- The pen's contracts once more, with what they come to under names. -/
namespace Go.Proofs.YtcijookbgliglaaDoor
open Go.RowKit

def sgV (g : Pm.Sg) : Value := .agg #[.int .u8 g.k, .string g.t, .int .i64 (g.at_ : Int), .int .i64 (g.to_ : Int)]

theorem on_at (w : World) (b : Nat) (s : ByteArray) (p : Pm.Pn) (t : ByteArray) {l : List UInt8} {r : Bool} (ht : t.toList = l) (hn : Pm.on p l = r) (hp : PenAt w b s p.g p.bad) :
    Calls Tryd.prog 32 #[.pointer (some ⟨b, 0, none⟩), .string t] w fun e w' => e = .returned (.bool r) ∧ w' = w := by
  subst ht hn
  exact on_any w b s p t hp
theorem next_at (w : World) (b : Nat) (s : ByteArray) (p : Pm.Pn) {q : Pm.Pn} (hn : Pm.next s p = q) (hs : s.size ≤ 300) (hto : Pm.ok s p) (hp : PenAt w b s p.g p.bad) :
    Calls Tryd.prog 54 #[.pointer (some ⟨b, 0, none⟩)] w fun e w' => e = .returned (.agg #[.int .u8 p.g.k, .string p.g.t, .int .i64 (p.g.at_ : Int), .int .i64 (p.g.to_ : Int)]) ∧ Kept b w w' ∧ PenAt w' b s q.g q.bad := by
  subst hn
  exact next_any w b s p (by unfold maxLen; omega) hto hp
theorem need_at (w : World) (b : Nat) (s : ByteArray) (p : Pm.Pn) (t : ByteArray) {l : List UInt8} {g : Pm.Sg} {q : Pm.Pn} (ht : t.toList = l) (hn : Pm.need s p l = (g, q)) (hs : s.size ≤ 300) (hto : Pm.ok s p) (hp : PenAt w b s p.g p.bad) :
    Calls Tryd.prog 30 #[.pointer (some ⟨b, 0, none⟩), .string t] w fun e w' => e = .returned (.agg #[.int .u8 g.k, .string g.t, .int .i64 (g.at_ : Int), .int .i64 (g.to_ : Int)]) ∧ Kept b w w' ∧ PenAt w' b s q.g q.bad := by
  subst ht
  have h := need_any w b s p t (by unfold maxLen; omega) hto hp
  rw [hn] at h
  exact h
theorem word_at (w : World) (b : Nat) (s : ByteArray) (p : Pm.Pn) {g : Pm.Sg} {q : Pm.Pn} (hn : Pm.word s p = (g, q)) (hs : s.size ≤ 300) (hto : Pm.ok s p) (hp : PenAt w b s p.g p.bad) :
    Calls Tryd.prog 31 #[.pointer (some ⟨b, 0, none⟩)] w fun e w' => e = .returned (.agg #[.int .u8 g.k, .string g.t, .int .i64 (g.at_ : Int), .int .i64 (g.to_ : Int)]) ∧ Kept b w w' ∧ PenAt w' b s q.g q.bad := by
  have h := word_any w b s p (by unfold maxLen; omega) hto hp
  rw [hn] at h
  exact h
theorem more_at (w : World) (b : Nat) (s : ByteArray) (p : Pm.Pn) {r : Bool} {q : Pm.Pn} (hn : Pm.skip s p [44] = (r, q)) (hs : s.size ≤ 300) (hto : Pm.ok s p) (hp : PenAt w b s p.g p.bad) :
    Calls Tryd.prog 55 #[.pointer (some ⟨b, 0, none⟩)] w fun e w' => e = .returned (.bool r) ∧ Kept b w w' ∧ PenAt w' b s q.g q.bad := by
  have h := more_any w b s p (by unfold maxLen; omega) hto hp
  rw [Pm.more_skip, hn] at h
  exact h
theorem litOn : (ByteArray.mk #[111, 110]).toList = Pm.wOn := by decide +kernel
theorem litIf : (ByteArray.mk #[105, 102]).toList = Pm.wIf := by decide +kernel
theorem litNot : (ByteArray.mk #[110, 111, 116]).toList = Pm.wNot := by decide +kernel
theorem litGo : (ByteArray.mk #[103, 111]).toList = Pm.wGo := by decide +kernel
theorem litDo : (ByteArray.mk #[100, 111]).toList = Pm.wDo := by decide +kernel
theorem litClosed : (ByteArray.mk #[99, 108, 111, 115, 101, 100]).toList = Pm.wClosed := by decide +kernel
theorem litState : (ByteArray.mk #[115, 116, 97, 116, 101]).toList = Pm.wState := by decide +kernel
theorem litSemi : (ByteArray.mk #[59]).toList = [59] := by decide +kernel
theorem litOpen : (ByteArray.mk #[123]).toList = [123] := by decide +kernel
theorem litShut : (ByteArray.mk #[125]).toList = [125] := by decide +kernel
theorem litComma : (ByteArray.mk #[44]).toList = [44] := by decide +kernel

end Go.Proofs.YtcijookbgliglaaDoor
