import Derived.Test.YtcijookbgliglaaDoorYa
/- The program's reader in memory; the walk over its advance. -/
namespace Go.Proofs.YtcijookbgliglaaDoor
open Go.RowKit

def RdAt (w : World) (b : Nat) (s : ByteArray) (g : Pm.Sg) : Prop :=
  w.heap[b]? = some (.cells #[.string s, .int .i64 (g.at_ : Int), .string g.t, .int .i64 (g.to_ : Int)] 137 (0, 0))
theorem RdAt.lt {w : World} {b : Nat} {s : ByteArray} {g : Pm.Sg} (h : RdAt w b s g) : b < w.heap.size := (Array.getElem?_eq_some_iff.1 h).1
theorem RdAt.cells {w : World} {b : Nat} {s : ByteArray} {g : Pm.Sg} (h : RdAt w b s g) :
    w.cell? ⟨b, 0, none⟩ = some (.string s) ∧ w.cell? ⟨b, 1, none⟩ = some (.int .i64 (g.at_ : Int)) ∧ w.cell? ⟨b, 2, none⟩ = some (.string g.t) ∧ w.cell? ⟨b, 3, none⟩ = some (.int .i64 (g.to_ : Int)) ∧ ∀ o, w.frozen? ⟨b, o, none⟩ = false := by
  unfold RdAt at h
  simp [World.cell?, World.frozen?, h]
theorem RdAt.same {w w' : World} {b : Nat} {s : ByteArray} {g : Pm.Sg} (h : RdAt w b s g) (e : w'.heap[b]? = w.heap[b]?) : RdAt w' b s g := e.trans h
theorem RdAt.below {w w' : World} {b : Nat} {s : ByteArray} {g : Pm.Sg} (h : RdAt w b s g) (e : Below w.heap.size w w') : RdAt w' b s g := h.same (e.block b h.lt)
theorem RdAt.alloc {w : World} {b : Nat} {s : ByteArray} {g : Pm.Sg} (h : RdAt w b s g) (o : Obj) : RdAt (w.alloc o) b s g := h.same (Below.heap_alloc _ _ _ h.lt)
theorem RdAt.other {w : World} {b : Nat} {s : ByteArray} {g : Pm.Sg} (h : RdAt w b s g) (p : Addr) (hp : b ≠ p.block) (v : Value) : RdAt (w.setCell p v) b s g := h.same (Below.heap_setCell _ _ _ _ hp)
theorem RdAt.set {w : World} {b : Nat} {s : ByteArray} {g : Pm.Sg} (h : RdAt w b s g) (g' : Pm.Sg) :
    RdAt (((w.setCell ⟨b, 1, none⟩ (.int .i64 (g'.at_ : Int))).setCell ⟨b, 2, none⟩ (.string g'.t)).setCell ⟨b, 3, none⟩ (.int .i64 (g'.to_ : Int))) b s g' := by
  unfold RdAt at h ⊢
  simp [World.setCell, Array.getElem?_modify, h]
theorem Kept.set3 {w w' : World} {b : Nat} (h : Kept b w w') (o1 o2 o3 : Nat) (v0 v1 v2 : Value) :
    Kept b w (((w'.setCell ⟨b, o1, none⟩ v0).setCell ⟨b, o2, none⟩ v1).setCell ⟨b, o3, none⟩ v2) :=
  ((h.setCell o1 v0).setCell o2 v1).setCell o3 v2

def stray (x : Nat) : Ending := .panicked [{ v := .iface 110 (.int .i64 (x : Int)), recovered := false }]
def short : Ending := .panicked [{ v := .iface 112 (.agg #[]), recovered := false }]

theorem kept_len (x : ByteArray) (h : Pm.kept x = true) : x.size ≤ 8 := by
  unfold Pm.kept Pm.keptFrom Pm.keptL at h
  simp only [List.drop_zero, List.any_cons, List.any_nil, Bool.or_false, Bool.or_eq_true, beq_iff_eq] at h
  rw [← Pm.toList_length]
  rcases h with h | h | h | h | h | h | h <;> rw [← h] <;> decide
theorem signOf_letters (s : ByteArray) (i k : Nat) (hi : i < s.size) (n : ¬ k = i) (h8 : ¬ 8 < k - i) : (Pm.signOf s i k).t = s.extract i k ∧ (Pm.signOf s i k).at_ = i ∧ (Pm.signOf s i k).to_ = k ∧ (Pm.signOf s i k).k ≠ 63 := by
  cases hkp : Pm.kept (s.extract i k)
  · rw [Pm.signOf_word s i k hi n hkp h8]; simp
  · rw [Pm.signOf_kept s i k hi n hkp]; simp
theorem signOf_toolong (s : ByteArray) (i k : Nat) (hi : i < s.size) (n : ¬ k = i) (h8 : 8 < k - i) (hk : k ≤ s.size) : Pm.signOf s i k = ⟨63, Pm.emp, i, i⟩ := by
  refine Pm.signOf_long s i k hi n ?_ h8
  cases hkp : Pm.kept (s.extract i k)
  · rfl
  · have := kept_len _ hkp
    simp at this; omega

set_option maxRecDepth 100000 in
set_option maxHeartbeats 2000000 in
theorem advance_any (w : World) (b : Nat) (s : ByteArray) (g : Pm.Sg) (hs : s.size ≤ 300) (hto : g.to_ ≤ s.size) (hp : RdAt w b s g) :
    Calls Tryd.prog 57 #[.pointer (some ⟨b, 0, none⟩)] w fun e w' => Kept b w w' ∧ (((Pm.signAt s g.to_).k = 63 ∧ e = stray (Pm.signAt s g.to_).at_) ∨ ((Pm.signAt s g.to_).k ≠ 63 ∧ e = .returned (.tuple #[]) ∧ RdAt w' b s (Pm.signAt s g.to_))) := by
  obtain ⟨c0, c1, c2, c3, cf⟩ := hp.cells
  have HP := hide hp
  clear hp
  go_enter Tryd.func57, Tryd.ntmps57
  go_wp2
  go_loop [2] (fun t => ∃ k : Nat, k ≤ s.size ∧ t = .int .i64 (k : Int) ∧ Hid (Pm.skipB s k = Pm.skipB s g.to_)) (fun t => s.size - (intOf t).toNat)
  case atStart => exact ⟨g.to_, hto, rfl, rfl⟩
  case round =>
    obtain ⟨k, hk, rfl, HR⟩ := hrel
    by_cases hlt : k < s.size
    · cases hbl : Pm.isBl s[k]
      · have HB := hide (Pm.signAt_of s g.to_ k HR.out (Pm.skipB_no s k hlt hbl))
        go_wp2_with (go_at_call 67; refine (isBlank_any _ _).mono ?_; rintro e w' ⟨rfl, rfl⟩)
        clear hbl
        go_loop [3] (fun t => ∃ q : Nat, k ≤ q ∧ q ≤ s.size ∧ t = .int .i64 (q : Int) ∧ Hid (Pm.skipL s q = Pm.skipL s k)) (fun t => s.size - (intOf t).toNat)
        case atStart => exact ⟨k, by omega, by omega, rfl, rfl⟩
        case round =>
          obtain ⟨q, hq1, hq2, rfl, HL⟩ := hrel
          by_cases hq : q < s.size
          · cases hsm : Pm.isSm s[q]
            · have HE := hide (HL.out.symm.trans (Pm.skipL_no s q hq hsm))
              by_cases hqk : q = k
              · obtain rfl : k = q := hqk.symm
                cases h4 : Pm.is4 s[k]
                · have hi := index4 s[k]
                  rw [h4] at hi
                  have hi' : ¬ 0 ≤ Lib.indexByte [123, 125, 44, 59] s[k] := by simpa using hi
                  have HT := hide (Pm.signOf_none s k hlt h4)
                  clear h4 hi
                  go_wp2_with (first | (go_at_call 68; refine (isLetter_any _ _).mono ?_; rintro e w' ⟨rfl, rfl⟩) | (go_at_call 69; refine (indexByte_any _ _).mono ?_; rintro e w' ⟨rfl, rfl⟩))
                  refine ⟨rfl, Kept.refl _ _, Or.inl ?_⟩
                  rw [HB.out, HE.out, HT.out]
                  exact ⟨rfl, rfl⟩
                · have hi := index4 s[k]
                  rw [h4] at hi
                  have hi' : 0 ≤ Lib.indexByte [123, 125, 44, 59] s[k] := by simpa using hi
                  have HT := hide (Pm.signOf_one s k hlt h4)
                  have HS := hide (HP.out.set ⟨107, s.extract k (k + 1), k, k + 1⟩)
                  clear h4 hi
                  go_wp2_with (first | (go_at_call 68; refine (isLetter_any _ _).mono ?_; rintro e w' ⟨rfl, rfl⟩) | (go_at_call 69; refine (indexByte_any _ _).mono ?_; rintro e w' ⟨rfl, rfl⟩))
                  go_end0
                  refine ⟨(Kept.refl _ _).set3 1 2 3 _ _ _, Or.inr ?_⟩
                  rw [HB.out, HE.out, HT.out]
                  exact ⟨by simp, rfl, HS.out⟩
              have hqk' : ¬ q = k := hqk
              by_cases h8 : 8 < q - k
              · have h8' : (8 : Int) < (q : Int) - (k : Int) := by omega
                have HT := hide (signOf_toolong s k q hlt hqk' h8 hq2)
                go_wp2_with (first | (go_at_call 68; refine (isLetter_any _ _).mono ?_; rintro e w' ⟨rfl, rfl⟩) | (go_at_call 69; refine (indexByte_any _ _).mono ?_; rintro e w' ⟨rfl, rfl⟩))
                refine ⟨rfl, Kept.refl _ _, Or.inl ?_⟩
                rw [HB.out, HE.out, HT.out]
                exact ⟨rfl, rfl⟩
              · have h8' : ¬ (8 : Int) < (q : Int) - (k : Int) := by omega
                have h0' : (0 : Int) < (q : Int) - (k : Int) := by omega
                obtain ⟨t1, t2, t3, t4⟩ := signOf_letters s k q hlt hqk' h8
                have HT := hide (show RdAt _ b s (Pm.signOf s k q) from HP.out.set (Pm.signOf s k q))
                rw [t1, t2, t3] at HT
                have H4 := hide t4
                clear t1 t2 t3 t4
                go_wp2_with (first | (go_at_call 68; refine (isLetter_any _ _).mono ?_; rintro e w' ⟨rfl, rfl⟩) | (go_at_call 69; refine (indexByte_any _ _).mono ?_; rintro e w' ⟨rfl, rfl⟩))
                go_end0
                refine ⟨(Kept.refl _ _).set3 1 2 3 _ _ _, Or.inr ?_⟩
                rw [HB.out, HE.out]
                exact ⟨H4.out, rfl, HT.out⟩
            · have HY := hide (Pm.skipL_yes s q hq hsm)
              go_wp2_with (first | (go_at_call 68; refine (isLetter_any _ _).mono ?_; rintro e w' ⟨rfl, rfl⟩) | (go_at_call 69; refine (indexByte_any _ _).mono ?_; rintro e w' ⟨rfl, rfl⟩))
              go_round
              case rel => exact ⟨q + 1, by omega, by omega, by go_num, HY.out.symm.trans HL.out⟩
              case measure => simp [intOf]; omega
          · have HE := hide (HL.out.symm.trans (Pm.skipL_end s q hq))
            have hqk' : ¬ q = k := by omega
            by_cases h8 : 8 < q - k
            · have h8' : (8 : Int) < (q : Int) - (k : Int) := by omega
              have HT := hide (signOf_toolong s k q hlt hqk' h8 hq2)
              go_wp2_with (first | (go_at_call 68; refine (isLetter_any _ _).mono ?_; rintro e w' ⟨rfl, rfl⟩) | (go_at_call 69; refine (indexByte_any _ _).mono ?_; rintro e w' ⟨rfl, rfl⟩))
              refine ⟨rfl, Kept.refl _ _, Or.inl ?_⟩
              rw [HB.out, HE.out, HT.out]
              exact ⟨rfl, rfl⟩
            · have h8' : ¬ (8 : Int) < (q : Int) - (k : Int) := by omega
              have h0' : (0 : Int) < (q : Int) - (k : Int) := by omega
              obtain ⟨t1, t2, t3, t4⟩ := signOf_letters s k q hlt hqk' h8
              have HT := hide (show RdAt _ b s (Pm.signOf s k q) from HP.out.set (Pm.signOf s k q))
              rw [t1, t2, t3] at HT
              have H4 := hide t4
              clear t1 t2 t3 t4
              go_wp2_with (first | (go_at_call 68; refine (isLetter_any _ _).mono ?_; rintro e w' ⟨rfl, rfl⟩) | (go_at_call 69; refine (indexByte_any _ _).mono ?_; rintro e w' ⟨rfl, rfl⟩))
              go_end0
              refine ⟨(Kept.refl _ _).set3 1 2 3 _ _ _, Or.inr ?_⟩
              rw [HB.out, HE.out]
              exact ⟨H4.out, rfl, HT.out⟩
      · have HB := hide (Pm.skipB_yes s k hlt hbl)
        go_wp2_with (go_at_call 67; refine (isBlank_any _ _).mono ?_; rintro e w' ⟨rfl, rfl⟩)
        go_round
        case rel => exact ⟨k + 1, by omega, by go_num, HB.out.symm.trans HR.out⟩
        case measure => simp [intOf]; omega
    · have HB := hide (Pm.signAt_of s g.to_ k HR.out (Pm.skipB_end s k hlt))
      go_wp2_with (go_at_call 67; refine (isBlank_any _ _).mono ?_; rintro e w' ⟨rfl, rfl⟩)
      have hke : k = s.size := by omega
      have HE := hide (Pm.signOf_end s k (Pm.skipL s k) hlt)
      have HS := hide (HP.out.set ⟨0, Pm.emp, s.size, s.size⟩)
      have HKE := hide hke
      go_loop [3] (fun t => t = .int .i64 (k : Int)) (fun _ => 0)
      case atStart => rfl
      case round =>
        obtain rfl := hrel
        have hkk : ((k : Int) == (s.size : Int)) = true := by simp; omega
        clear hke
        go_wp2_with (first | (go_at_call 68; refine (isLetter_any _ _).mono ?_; rintro e w' ⟨rfl, rfl⟩) | (go_at_call 69; refine (indexByte_any _ _).mono ?_; rintro e w' ⟨rfl, rfl⟩))
        go_end0
        refine ⟨(Kept.refl _ _).set3 1 2 3 _ _ _, Or.inr ?_⟩
        rw [HB.out, HE.out]
        refine ⟨by simp, rfl, ?_⟩
        rw [HKE.out]
        exact HS.out
end Go.Proofs.YtcijookbgliglaaDoor
