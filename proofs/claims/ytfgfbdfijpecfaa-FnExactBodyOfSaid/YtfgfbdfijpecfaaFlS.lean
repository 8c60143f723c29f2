/-
  Header fields: the walk of spec's l05Lines.
-/
import Derived.Test.YtfgfbdfijpecfaaFlP
import Derived.Test.YtfgfbdfijpecfaaStrs
namespace Go.Proofs.Ytfgfbdfijpecfaa
set_option linter.unusedVariables false
open Go.RowKit

set_option maxRecDepth 100000 in
set_option maxHeartbeats 1000000 in
theorem specLines_any (s : ByteArray) (w : World) (hs : s.size ≤ 16777216) :
    Calls Try.prog 52 #[.string s] w (GivesStrs ((linesA [] s.data.toList).map mkB) w) := by
  obtain ⟨i0, hi, hz0, hz1, hz2⟩ := info_parts infoStr
  obtain ⟨T, hT⟩ : ∃ T, linesA [] s.data.toList = T := ⟨_, rfl⟩
  rw [hT]
  rw [← linesAt_zero] at hT
  have HT := Lib.hid hT
  have hlen : s.data.toList.length = s.size := by simp
  have hat : ∀ k (h : k < s.size), s.data.toList[k]? = some (s[k]'h) := fun k h => by
    rw [List.getElem?_eq_getElem (by simpa using h)]; rfl
  have HAT := Lib.hid hat
  have HLEN := Lib.hid hlen
  clear hT hat hlen
  go_enter Try.func52, Try.ntmps52
  go_wp2
  go_loopw [3, 4, 5] (fun o f i wr => ∃ (j k : Nat) (acc : List (List UInt8)), j ≤ k ∧ k ≤ s.size ∧ f = .int .i64 (j : Int) ∧ i = .int .i64 (k : Int) ∧ Hid (acc ++ linesAt s.data.toList j k = T) ∧ acc.length ≤ k ∧ wr.ownsRow w.heap.size 9 1 o acc.length ((acc.map mkB).map Value.string) ∧ Below w.heap.size w wr) (fun _ _ i _ => s.size - (intOf i).toNat)
  case atStart => exact ⟨0, 0, [], Nat.le_refl _, Nat.zero_le _, rfl, rfl, HT, Nat.zero_le _, World.ownsRow_lit w #[] 0 (Nat.le_refl _) (by decide) rfl, (Below.refl _ _).alloc (Nat.le_refl _) _⟩
  case round =>
    obtain ⟨j, k, acc, hjk, hk, rfl, rfl, HP, hacc, hown, hB⟩ := hrel
    have hsz := hB.size
    by_cases hlt : k + 1 < s.size
    · have g1 : decide ((k : Int) + 1 < (s.size : Int)) = true := by simp; omega
      have i1 : (0 : Int) ≤ (k : Int) := by omega
      have i2 : (k : Int) < (s.size : Int) := by omega
      have i3 : (0 : Int) ≤ (k : Int) + 1 := by omega
      have i4 : ((k : Int) + 1).toNat = k + 1 := by omega
      by_cases hm : s[k]'(by omega) = 13 ∧ s[k + 1] = 10
      · have HN : Hid ((acc ++ [(s.data.toList.drop j).take (k - j)]) ++ linesAt s.data.toList (k + 2) (k + 2) = T) := Lib.hid (by
          rw [← HP.out, linesAt_mark _ j k (by rw [HLEN.out]; omega) (by rw [HAT.out k (by omega), hm.1]) (by rw [HAT.out (k + 1) (by omega), hm.2])]
          simp)
        have b1 : ((s[k]'(by omega)).toNat : Int) = 13 := by rw [hm.1]; rfl
        have b2 : ((s[k + 1]).toNat : Int) = 10 := by rw [hm.2]; rfl
        have g2 : (((s[k]'(by omega)).toNat : Int) == 13) = true := by rw [b1]; rfl
        have g3 : (((s[k + 1]).toNat : Int) == 10) = true := by rw [b2]; rfl
        have i5 : (j : Int) ≤ (k : Int) := by omega
        obtain ⟨piece, hpiece⟩ : ∃ p, s.extract j k = p := ⟨_, rfl⟩
        have HPC : Hid (piece = mkB ((s.data.toList.drop j).take (k - j))) := Lib.hid (by rw [← hpiece]; exact mkB_extract s j k)
        clear hm HP b1 b2
        go_wp2_with (at_builtin; refine wpList_append_own _ rfl _ _ 47 rfl w.heap.size 9 i0 (.string ⟨#[]⟩) 1 16 Try.underlying47 hi hz0 hz1 hz2 rfl (by decide) _ _ _ rfl (hown.alloc _) ⟨wr.heap.size, 0, none⟩ 1 1 [.string (piece)] rfl rfl (cell_one_new _ _ _) (by simp [Value.oneCell']) (by unfold maxLen; omega) (by omega) (by simp; omega) ?_; intro v' w1 hown' hgrow _)
        have hB1 : Below w.heap.size w w1 := (hB.alloc hsz _).grown hgrow (by simp; omega) (fun k e => (hown.lt k e).1)
        have HROW : Hid (w1.ownsRow w.heap.size 9 1 v' (acc ++ [(s.data.toList.drop j).take (k - j)]).length (((acc ++ [(s.data.toList.drop j).take (k - j)]).map mkB).map Value.string)) := Lib.hid (by
          have := hown'
          rw [HPC.out] at this
          simpa using this)
        clear hown' hown hpiece
        go_wp2_with fail
        go_roundw
        case rel => exact ⟨k + 2, k + 2, acc ++ [(s.data.toList.drop j).take (k - j)], by omega, by omega, by go_num, by go_num, HN, by simp; omega, HROW.out, hB1⟩
        case measure => simp [intOf]; omega
      · have HN : Hid (acc ++ linesAt s.data.toList j (k + 1) = T) := Lib.hid (by
          rw [← HP.out, linesAt_next _ j k hjk (by rw [HLEN.out]; omega)]
          intro ⟨a, b⟩
          rw [HAT.out k (by omega)] at a
          rw [HAT.out (k + 1) (by omega)] at b
          exact hm ⟨Option.some.inj a, Option.some.inj b⟩)
        by_cases hm1 : s[k]'(by omega) = 13
        · have hm2 : ¬ s[k + 1] = 10 := fun h => hm ⟨hm1, h⟩
          have b1 : ((s[k]'(by omega)).toNat : Int) = 13 := by rw [hm1]; rfl
          have g2 : (((s[k]'(by omega)).toNat : Int) == 13) = true := by rw [b1]; rfl
          have g3 : (((s[k + 1]).toNat : Int) == 10) = false := by
            rw [beq_eq_false_iff_ne]
            intro h
            exact hm2 (UInt8.toNat_inj.1 (by have : (s[k + 1]).toNat = 10 := by omega
                                             rw [this]; rfl))
          clear hm HP b1 hm1 hm2
          go_wp2_with fail
          go_roundw
          case rel => exact ⟨j, k + 1, acc, by omega, by omega, rfl, by go_num, HN, by omega, hown, hB⟩
          case measure => simp [intOf]; omega
        · have g2 : (((s[k]'(by omega)).toNat : Int) == 13) = false := by
            rw [beq_eq_false_iff_ne]
            intro h
            exact hm1 (UInt8.toNat_inj.1 (by have : (s[k]'(by omega)).toNat = 13 := by omega
                                             rw [this]; rfl))
          clear hm HP hm1
          go_wp2_with fail
          go_roundw
          case rel => exact ⟨j, k + 1, acc, by omega, by omega, rfl, by go_num, HN, by omega, hown, hB⟩
          case measure => simp [intOf]; omega
    · have g1 : decide ((k : Int) + 1 < (s.size : Int)) = false := by simp; omega
      have he := linesAt_end s.data.toList j k hjk (by rw [HLEN.out]; exact hk) (by rw [HLEN.out]; omega)
      rw [HLEN.out] at he
      by_cases hf : j < s.size
      · rw [if_pos hf] at he
        have g2 : decide ((j : Int) < (s.size : Int)) = true := by simp; omega
        have HN : Hid (acc ++ [s.data.toList.drop j] = T) := Lib.hid (by rw [← he]; exact HP.out)
        have i1 : (0 : Int) ≤ (j : Int) := by omega
        have i2 : (j : Int) ≤ (s.size : Int) := by omega
        obtain ⟨piece, hpiece⟩ : ∃ p, s.extract j s.size = p := ⟨_, rfl⟩
        have HPC : Hid (piece = mkB (s.data.toList.drop j)) := Lib.hid (by rw [← hpiece, mkB_extract, List.take_of_length_le (by simp)])
        clear he HP
        go_wp2_with (at_builtin; refine wpList_append_own _ rfl _ _ 47 rfl w.heap.size 9 i0 (.string ⟨#[]⟩) 1 16 Try.underlying47 hi hz0 hz1 hz2 rfl (by decide) _ _ _ rfl (hown.alloc _) ⟨wr.heap.size, 0, none⟩ 1 1 [.string (piece)] rfl rfl (cell_one_new _ _ _) (by simp [Value.oneCell']) (by unfold maxLen; omega) (by omega) (by simp; omega) ?_; intro v' w1 hown' hgrow _)
        have hB1 : Below w.heap.size w w1 := (hB.alloc hsz _).grown hgrow (by simp; omega) (fun k e => (hown.lt k e).1)
        have HROW : Hid (w1.ownsRow w.heap.size 9 1 v' (acc ++ [s.data.toList.drop j]).length (((acc ++ [s.data.toList.drop j]).map mkB).map Value.string)) := Lib.hid (by
          have := hown'
          rw [HPC.out] at this
          simpa using this)
        clear hown' hown hpiece
        go_wp2_with fail
        go_ret
        exact ⟨_, rfl, by have := HROW.out; rw [HN.out] at this; simpa using this, hB1⟩
      · rw [if_neg hf] at he
        have g2 : decide ((j : Int) < (s.size : Int)) = false := by simp; omega
        have HN : Hid (acc = T) := Lib.hid (by have := HP.out; rw [he, List.append_nil] at this; exact this)
        clear he HP
        go_wp2_with fail
        go_ret
        exact ⟨_, rfl, by rw [← HN.out]; simpa using hown, hB⟩
end Go.Proofs.Ytfgfbdfijpecfaa
