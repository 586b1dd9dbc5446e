import Derived.Test.YtcijookbgliglaaDoorWa
/- The walk over the document's sign. -/
namespace Go.Proofs.YtcijookbgliglaaDoor
open Go.RowKit

def Sg.val (g : Pm.Sg) : Value := .agg #[.int .u8 g.k, .string g.t, .int .i64 (g.at_ : Int), .int .i64 (g.to_ : Int)]

theorem bcell {W w1 : World} (hb : Below W.heap.size W w1) : (∀ b o, b < W.heap.size → w1.cell? ⟨b, o, none⟩ = W.cell? ⟨b, o, none⟩) ∧ (∀ b o, b < W.heap.size → w1.frozen? ⟨b, o, none⟩ = W.frozen? ⟨b, o, none⟩) :=
  ⟨fun b o h => hb.cell (p := ⟨b, o, none⟩) h, fun b o h => hb.frozen (p := ⟨b, o, none⟩) h⟩
theorem below4 {a w : World} (h : Below a.heap.size a w) (v0 v1 v2 v3 : Value) :
    Below a.heap.size a ((((w.setCell ⟨a.heap.size, 0, none⟩ v0).setCell ⟨a.heap.size, 1, none⟩ v1).setCell ⟨a.heap.size, 2, none⟩ v2).setCell ⟨a.heap.size, 3, none⟩ v3) := by
  exact (((h.setCell (p := ⟨a.heap.size, 0, none⟩) (Nat.le_refl _) v0).setCell (p := ⟨a.heap.size, 1, none⟩) (Nat.le_refl _) v1).setCell (p := ⟨a.heap.size, 2, none⟩) (Nat.le_refl _) v2).setCell (p := ⟨a.heap.size, 3, none⟩) (Nat.le_refl _) v3
theorem sgval (k : Int) (t : ByteArray) (a b : Nat) (b' : Int) (h : b' = (b : Int)) : Ending.returned (.agg #[.int .u8 k, .string t, .int .i64 (a : Int), .int .i64 b']) = .returned (Sg.val ⟨k, t, a, b⟩) := by rw [h]; rfl

set_option maxHeartbeats 1000000 in
theorem sign_any (s : ByteArray) (i : Nat) (w : World) (hs : s.size ≤ maxLen) (hi : i ≤ s.size) :
    Calls Tryd.prog 29 #[.string s, .int .i64 (i : Int)] w fun e w' => e = .returned (Sg.val (Pm.signAt s i)) ∧ Below w.heap.size w w' := by
  unfold maxLen at hs
  go_enter Tryd.func29, Tryd.ntmps29
  go_wp2
  go_loop [1] (fun t => ∃ k : Nat, k ≤ s.size ∧ t = .int .i64 (k : Int) ∧ Hid (Pm.skipB s k = Pm.skipB s i)) (fun t => s.size - (intOf t).toNat)
  case atStart => exact ⟨i, hi, rfl, rfl⟩
  case round =>
    obtain ⟨k, hk, rfl, HR⟩ := hrel
    by_cases hlt : k < s.size
    · by_cases h32 : (s[k].toNat : Int) = 32
      · have h1 : ((s[k].toNat : Int) == 32) = true := by simp [h32]
        clear h32
        go_wp2
        go_round
        case rel => exact ⟨k + 1, by omega, by go_num, (Pm.skipB_yes s k hlt (by simp [Pm.isBl, h1])).symm.trans HR.out⟩
        case measure => simp [intOf]; omega
      · have h1 : ((s[k].toNat : Int) == 32) = false := by simp [h32]
        clear h32
        by_cases h10 : (s[k].toNat : Int) = 10
        · have h2 : ((s[k].toNat : Int) == 10) = true := by simp [h10]
          clear h10
          go_wp2
          go_round
          case rel => exact ⟨k + 1, by omega, by go_num, (Pm.skipB_yes s k hlt (by simp [Pm.isBl, h2])).symm.trans HR.out⟩
          case measure => simp [intOf]; omega
        · have h2 : ((s[k].toNat : Int) == 10) = false := by simp [h10]
          clear h10
          have HB : Hid (Pm.signAt s i = Pm.signOf s k (Pm.skipL s k)) := Pm.signAt_of s i k HR.out (Pm.skipB_no s k hlt (by simp [Pm.isBl, h1, h2]))
          go_wp2
          clear h1 h2
          go_loop [5] (fun t => ∃ q : Nat, k ≤ q ∧ q ≤ s.size ∧ t = .int .i64 (q : Int) ∧ Hid (Pm.skipL s q = Pm.skipL s k)) (fun t => s.size - (intOf t).toNat)
          case atStart => exact ⟨k, by omega, by omega, rfl, rfl⟩
          case round =>
            obtain ⟨q, hq1, hq2, rfl, HL⟩ := hrel
            by_cases hq : q < s.size
            · cases hsm : Pm.isSm s[q]
              · have HE : Hid (Pm.skipL s k = q) := HL.out.symm.trans (Pm.skipL_no s q hq hsm)
                by_cases hqk : q = k
                · obtain rfl : k = q := hqk.symm
                  by_cases e1 : (s[k].toNat : Int) = 123
                  · have g1 : ((s[k].toNat : Int) == 123) = true := by simp [e1]
                    clear e1
                    go_wp2_with (first | (go_at_call 51; refine (small_any _ _).mono ?_; rintro e w' ⟨rfl, rfl⟩) | (go_at_call 52; refine (kept_any _ _).mono ?_; rintro e w' ⟨rfl, hb⟩; obtain ⟨hc, hf⟩ := bcell hb))
                    refine bodyPost_ret (v := .agg #[.int .u8 107, .string (s.extract k (k + 1)), .int .i64 (k : Int), .int .i64 ((k : Int) + 1)]) (by simp [results, Tryd.results29, go_sem]) rfl ⟨?_, ?_⟩
                    · rw [HB.out, HE.out, Pm.signOf_one s k hlt (by simp [Pm.is4, g1])]; exact sgval _ _ _ _ _ (by go_num)
                    · exact (Below.refl _ _).alloc (Nat.le_refl _) _
                  by_cases e2 : (s[k].toNat : Int) = 125
                  · have g0 : ((s[k].toNat : Int) == 123) = false := by simp [e1]
                    have g1 : ((s[k].toNat : Int) == 125) = true := by simp [e2]
                    clear e1 e2
                    go_wp2_with (first | (go_at_call 51; refine (small_any _ _).mono ?_; rintro e w' ⟨rfl, rfl⟩) | (go_at_call 52; refine (kept_any _ _).mono ?_; rintro e w' ⟨rfl, hb⟩; obtain ⟨hc, hf⟩ := bcell hb))
                    refine bodyPost_ret (v := .agg #[.int .u8 107, .string (s.extract k (k + 1)), .int .i64 (k : Int), .int .i64 ((k : Int) + 1)]) (by simp [results, Tryd.results29, go_sem]) rfl ⟨?_, ?_⟩
                    · rw [HB.out, HE.out, Pm.signOf_one s k hlt (by simp [Pm.is4, g1])]; exact sgval _ _ _ _ _ (by go_num)
                    · exact (Below.refl _ _).alloc (Nat.le_refl _) _
                  by_cases e3 : (s[k].toNat : Int) = 44
                  · have g0 : ((s[k].toNat : Int) == 123) = false := by simp [e1]
                    have g2 : ((s[k].toNat : Int) == 125) = false := by simp [e2]
                    have g1 : ((s[k].toNat : Int) == 44) = true := by simp [e3]
                    clear e1 e2 e3
                    go_wp2_with (first | (go_at_call 51; refine (small_any _ _).mono ?_; rintro e w' ⟨rfl, rfl⟩) | (go_at_call 52; refine (kept_any _ _).mono ?_; rintro e w' ⟨rfl, hb⟩; obtain ⟨hc, hf⟩ := bcell hb))
                    refine bodyPost_ret (v := .agg #[.int .u8 107, .string (s.extract k (k + 1)), .int .i64 (k : Int), .int .i64 ((k : Int) + 1)]) (by simp [results, Tryd.results29, go_sem]) rfl ⟨?_, ?_⟩
                    · rw [HB.out, HE.out, Pm.signOf_one s k hlt (by simp [Pm.is4, g1])]; exact sgval _ _ _ _ _ (by go_num)
                    · exact (Below.refl _ _).alloc (Nat.le_refl _) _
                  by_cases e4 : (s[k].toNat : Int) = 59
                  · have g0 : ((s[k].toNat : Int) == 123) = false := by simp [e1]
                    have g2 : ((s[k].toNat : Int) == 125) = false := by simp [e2]
                    have g3 : ((s[k].toNat : Int) == 44) = false := by simp [e3]
                    have g1 : ((s[k].toNat : Int) == 59) = true := by simp [e4]
                    clear e1 e2 e3 e4
                    go_wp2_with (first | (go_at_call 51; refine (small_any _ _).mono ?_; rintro e w' ⟨rfl, rfl⟩) | (go_at_call 52; refine (kept_any _ _).mono ?_; rintro e w' ⟨rfl, hb⟩; obtain ⟨hc, hf⟩ := bcell hb))
                    refine bodyPost_ret (v := .agg #[.int .u8 107, .string (s.extract k (k + 1)), .int .i64 (k : Int), .int .i64 ((k : Int) + 1)]) (by simp [results, Tryd.results29, go_sem]) rfl ⟨?_, ?_⟩
                    · rw [HB.out, HE.out, Pm.signOf_one s k hlt (by simp [Pm.is4, g1])]; exact sgval _ _ _ _ _ (by go_num)
                    · exact (Below.refl _ _).alloc (Nat.le_refl _) _
                  have g0 : ((s[k].toNat : Int) == 123) = false := by simp [e1]
                  have g2 : ((s[k].toNat : Int) == 125) = false := by simp [e2]
                  have g3 : ((s[k].toNat : Int) == 44) = false := by simp [e3]
                  have g4 : ((s[k].toNat : Int) == 59) = false := by simp [e4]
                  clear e1 e2 e3 e4
                  go_wp2_with (first | (go_at_call 51; refine (small_any _ _).mono ?_; rintro e w' ⟨rfl, rfl⟩) | (go_at_call 52; refine (kept_any _ _).mono ?_; rintro e w' ⟨rfl, hb⟩; obtain ⟨hc, hf⟩ := bcell hb))
                  refine bodyPost_ret (v := .agg #[.int .u8 63, .string Pm.emp, .int .i64 (k : Int), .int .i64 (k : Int)]) (by simp [results, Tryd.results29, go_sem, Pm.emp]) rfl ⟨?_, ?_⟩
                  · rw [HB.out, HE.out, Pm.signOf_none s k hlt (by simp [Pm.is4, g0, g2, g3, g4])]; rfl
                  · exact (Below.refl _ _).alloc (Nat.le_refl _) _
                · have hqk' : ((q : Int) == (k : Int)) = false := by simp; omega
                  cases hkp : Pm.kept (s.extract k q)
                  · by_cases h8 : 8 < q - k
                    · go_wp2_with (first | (go_at_call 51; refine (small_any _ _).mono ?_; rintro e w' ⟨rfl, rfl⟩) | (go_at_call 52; refine (kept_any _ _).mono ?_; rintro e w' ⟨rfl, hb⟩; obtain ⟨hc, hf⟩ := bcell hb))
                      refine bodyPost_ret (v := .agg #[.int .u8 63, .string Pm.emp, .int .i64 (k : Int), .int .i64 (k : Int)]) (by simp [results, Tryd.results29, go_sem, Pm.emp, hc]) rfl ⟨?_, ?_⟩
                      · rw [HB.out, HE.out, Pm.signOf_long s k q hlt hqk hkp h8]; rfl
                      · exact below4 (((Below.refl _ _).alloc (Nat.le_refl _) _).trans (hb.mono (by simp))) _ _ _ _
                    · go_wp2_with (first | (go_at_call 51; refine (small_any _ _).mono ?_; rintro e w' ⟨rfl, rfl⟩) | (go_at_call 52; refine (kept_any _ _).mono ?_; rintro e w' ⟨rfl, hb⟩; obtain ⟨hc, hf⟩ := bcell hb))
                      refine bodyPost_ret (v := .agg #[.int .u8 119, .string (s.extract k q), .int .i64 (k : Int), .int .i64 (q : Int)]) (by simp [results, Tryd.results29, go_sem, hc]) rfl ⟨?_, ?_⟩
                      · rw [HB.out, HE.out, Pm.signOf_word s k q hlt hqk hkp h8]; rfl
                      · exact below4 (((Below.refl _ _).alloc (Nat.le_refl _) _).trans (hb.mono (by simp))) _ _ _ _
                  · go_wp2_with (first | (go_at_call 51; refine (small_any _ _).mono ?_; rintro e w' ⟨rfl, rfl⟩) | (go_at_call 52; refine (kept_any _ _).mono ?_; rintro e w' ⟨rfl, hb⟩; obtain ⟨hc, hf⟩ := bcell hb))
                    refine bodyPost_ret (v := .agg #[.int .u8 107, .string (s.extract k q), .int .i64 (k : Int), .int .i64 (q : Int)]) (by simp [results, Tryd.results29, go_sem, hc]) rfl ⟨?_, ?_⟩
                    · rw [HB.out, HE.out, Pm.signOf_kept s k q hlt hqk hkp]; rfl
                    · exact below4 (((Below.refl _ _).alloc (Nat.le_refl _) _).trans (hb.mono (by simp))) _ _ _ _
              · have HY : Hid (Pm.skipL s q = Pm.skipL s (q + 1)) := Pm.skipL_yes s q hq hsm
                go_wp2_with (go_at_call 51; refine (small_any _ _).mono ?_; rintro e w' ⟨rfl, rfl⟩)
                go_round
                case rel => exact ⟨q + 1, by omega, by omega, by go_num, HY.out.symm.trans HL.out⟩
                case measure => simp [intOf]; omega
            · have HE : Hid (Pm.skipL s k = q) := HL.out.symm.trans (Pm.skipL_end s q hq)
              have hqk : ¬ q = k := by omega
              have hqk' : ((q : Int) == (k : Int)) = false := by simp; omega
              cases hkp : Pm.kept (s.extract k q)
              · by_cases h8 : 8 < q - k
                · go_wp2_with (first | (go_at_call 51; refine (small_any _ _).mono ?_; rintro e w' ⟨rfl, rfl⟩) | (go_at_call 52; refine (kept_any _ _).mono ?_; rintro e w' ⟨rfl, hb⟩; obtain ⟨hc, hf⟩ := bcell hb))
                  refine bodyPost_ret (v := .agg #[.int .u8 63, .string Pm.emp, .int .i64 (k : Int), .int .i64 (k : Int)]) (by simp [results, Tryd.results29, go_sem, Pm.emp, hc]) rfl ⟨?_, ?_⟩
                  · rw [HB.out, HE.out, Pm.signOf_long s k q hlt hqk hkp h8]; rfl
                  · exact below4 (((Below.refl _ _).alloc (Nat.le_refl _) _).trans (hb.mono (by simp))) _ _ _ _
                · go_wp2_with (first | (go_at_call 51; refine (small_any _ _).mono ?_; rintro e w' ⟨rfl, rfl⟩) | (go_at_call 52; refine (kept_any _ _).mono ?_; rintro e w' ⟨rfl, hb⟩; obtain ⟨hc, hf⟩ := bcell hb))
                  refine bodyPost_ret (v := .agg #[.int .u8 119, .string (s.extract k q), .int .i64 (k : Int), .int .i64 (q : Int)]) (by simp [results, Tryd.results29, go_sem, hc]) rfl ⟨?_, ?_⟩
                  · rw [HB.out, HE.out, Pm.signOf_word s k q hlt hqk hkp h8]; rfl
                  · exact below4 (((Below.refl _ _).alloc (Nat.le_refl _) _).trans (hb.mono (by simp))) _ _ _ _
              · go_wp2_with (first | (go_at_call 51; refine (small_any _ _).mono ?_; rintro e w' ⟨rfl, rfl⟩) | (go_at_call 52; refine (kept_any _ _).mono ?_; rintro e w' ⟨rfl, hb⟩; obtain ⟨hc, hf⟩ := bcell hb))
                refine bodyPost_ret (v := .agg #[.int .u8 107, .string (s.extract k q), .int .i64 (k : Int), .int .i64 (q : Int)]) (by simp [results, Tryd.results29, go_sem, hc]) rfl ⟨?_, ?_⟩
                · rw [HB.out, HE.out, Pm.signOf_kept s k q hlt hqk hkp]; rfl
                · exact below4 (((Below.refl _ _).alloc (Nat.le_refl _) _).trans (hb.mono (by simp))) _ _ _ _
    · have HB : Hid (Pm.signAt s i = ⟨0, Pm.emp, s.size, s.size⟩) := (Pm.signAt_of s i k HR.out (Pm.skipB_end s k hlt)).trans (Pm.signOf_end s k _ hlt)
      go_wp2
      refine bodyPost_ret (v := .agg #[.int .u8 0, .string Pm.emp, .int .i64 (s.size : Int), .int .i64 (s.size : Int)]) (by simp [results, Tryd.results29, go_sem, Pm.emp]) rfl ⟨?_, ?_⟩
      · rw [HB.out]; rfl
      · exact (Below.refl _ _).alloc (Nat.le_refl _) _
end Go.Proofs.YtcijookbgliglaaDoor
