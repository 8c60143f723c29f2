/-
  Words: the walk of spec's Quote.
-/
import Derived.Test.YtgebkpnieailbaaDoorHasS
namespace Go.Proofs.YtgebkpnieailbaaDoor
set_option linter.unusedVariables false
open Go.RowKit

theorem esc_take (l : List UInt8) (k : Nat) (h : k < l.length) : (l.take (k + 1)).flatMap escB = (l.take k).flatMap escB ++ escB (l.getD k 0) := by
  rw [List.take_add_one, List.flatMap_append, List.getD_eq_getElem?_getD, List.getElem?_eq_getElem h]
  simp

set_option maxRecDepth 100000 in
set_option maxHeartbeats 1000000 in
theorem specQuote_any (s : ByteArray) (w : World) (hs : s.size ≤ 67108864) :
    Calls Tryd.prog 17 #[.string s] w fun e w' => e = .returned (.string ⟨(quoteL s.data.toList).toArray⟩) ∧ Below w.heap.size w w' := by
  obtain ⟨i0, hi, hz0, hz1, hz2⟩ := info_parts infoByteJ
  go_enter Tryd.func17, Tryd.ntmps17
  go_wp2
  go_loopw [3, 4] (fun o i wr => ∃ (k : Nat) (L : List UInt8), k ≤ s.size ∧ i = .int .i64 (k : Int) ∧ Hid (L = 34 :: (s.data.toList.take k).flatMap escB) ∧ L.length ≤ 2 * k + 1 ∧ wr.ownsRow w.heap.size 5 1 o L.length (L.map bv) ∧ Below w.heap.size w wr) (fun _ i _ => s.size - (intOf i).toNat)
  case atStart => exact ⟨0, [34], by omega, rfl, Lib.hid rfl, by simp, World.ownsRow_lit w #[.int .u8 34] 1 (Nat.le_refl _) (by decide) rfl, (Below.refl _ _).alloc (Nat.le_refl _) _⟩
  case round =>
    obtain ⟨k, L, hk, rfl, HL, hLl, hown, hB⟩ := hrel
    have hlen : s.data.toList.length = s.size := by simp
    have hsz := hB.size
    by_cases hlt : k < s.size
    · have hst := esc_take s.data.toList k (by omega)
      rw [byte_at s k hlt] at hst
      by_cases h34 : s[k] = 34
      · have t1 : ((s[k].toNat : Int) == 34) = true := by rw [h34]; rfl
        have HST : Hid (L ++ [92] ++ [s[k]] = 34 :: (s.data.toList.take (k + 1)).flatMap escB) := Lib.hid (by
          rw [hst, HL.out]
          unfold escB
          rw [if_pos (.inl h34)]
          simp)
        clear hst h34 hlen
        go_wp2_with (first | (at_builtin; refine wpList_append_own _ rfl _ _ 43 rfl w.heap.size 5 i0 (.int .u8 0) 1 1 Tryd.underlying43 hi hz0 hz1 hz2 rfl (by decide) _ _ _ rfl (hown.alloc _) ⟨wr.heap.size, 0, none⟩ 1 1 [.int .u8 92] rfl rfl (cell_one_new _ _ _) (by simp [Value.oneCell']) (by unfold maxLen; omega) (by omega) (by simp; omega) ?_; intro v2 w2 hO2 hg2 _; have hB2 : Below w.heap.size w w2 := (hB.alloc hsz _).grown hg2 (by simp; omega) (fun k e => (hown.lt k e).1); have hsz2 := hB2.size) | (at_builtin; refine wpList_append_own _ rfl _ _ 43 rfl w.heap.size 5 i0 (.int .u8 0) 1 1 Tryd.underlying43 hi hz0 hz1 hz2 rfl (by decide) _ _ _ rfl (hO2.alloc _) ⟨w2.heap.size, 0, none⟩ 1 1 [.int .u8 (s[k].toNat : Int)] rfl rfl (cell_one_new _ _ _) (by simp [Value.oneCell']) (by unfold maxLen; omega) (by omega) (by simp; omega) ?_; intro v3 w3 hO3 hg3 _; have hB3 : Below w.heap.size w w3 := (hB2.alloc hsz2 _).grown hg3 (by simp; omega) (fun k e => (hO2.lt k e).1)))
        have hrow : w3.ownsRow w.heap.size 5 1 v3 (L ++ [92] ++ [s[k]]).length ((L ++ [92] ++ [s[k]]).map bv) := by
          have h := hO3
          simpa [bv, Nat.add_assoc] using h
        go_roundw
        case rel => exact ⟨k + 1, L ++ [92] ++ [s[k]], by omega, by go_num, HST, by simp; omega, hrow, hB3⟩
        case measure => simp [intOf]; omega
      · by_cases h92 : s[k] = 92
        · have t1 : ((s[k].toNat : Int) == 34) = false := by rw [h92]; rfl
          have t2 : ((s[k].toNat : Int) == 92) = true := by rw [h92]; rfl
          have HST : Hid (L ++ [92] ++ [s[k]] = 34 :: (s.data.toList.take (k + 1)).flatMap escB) := Lib.hid (by
            rw [hst, HL.out]
            unfold escB
            rw [if_pos (.inr h92)]
            simp)
          clear hst h34 h92 hlen
          go_wp2_with (first | (at_builtin; refine wpList_append_own _ rfl _ _ 43 rfl w.heap.size 5 i0 (.int .u8 0) 1 1 Tryd.underlying43 hi hz0 hz1 hz2 rfl (by decide) _ _ _ rfl (hown.alloc _) ⟨wr.heap.size, 0, none⟩ 1 1 [.int .u8 92] rfl rfl (cell_one_new _ _ _) (by simp [Value.oneCell']) (by unfold maxLen; omega) (by omega) (by simp; omega) ?_; intro v2 w2 hO2 hg2 _; have hB2 : Below w.heap.size w w2 := (hB.alloc hsz _).grown hg2 (by simp; omega) (fun k e => (hown.lt k e).1); have hsz2 := hB2.size) | (at_builtin; refine wpList_append_own _ rfl _ _ 43 rfl w.heap.size 5 i0 (.int .u8 0) 1 1 Tryd.underlying43 hi hz0 hz1 hz2 rfl (by decide) _ _ _ rfl (hO2.alloc _) ⟨w2.heap.size, 0, none⟩ 1 1 [.int .u8 (s[k].toNat : Int)] rfl rfl (cell_one_new _ _ _) (by simp [Value.oneCell']) (by unfold maxLen; omega) (by omega) (by simp; omega) ?_; intro v3 w3 hO3 hg3 _; have hB3 : Below w.heap.size w w3 := (hB2.alloc hsz2 _).grown hg3 (by simp; omega) (fun k e => (hO2.lt k e).1)))
          have hrow : w3.ownsRow w.heap.size 5 1 v3 (L ++ [92] ++ [s[k]]).length ((L ++ [92] ++ [s[k]]).map bv) := by
            have h := hO3
            simpa [bv, Nat.add_assoc] using h
          go_roundw
          case rel => exact ⟨k + 1, L ++ [92] ++ [s[k]], by omega, by go_num, HST, by simp; omega, hrow, hB3⟩
          case measure => simp [intOf]; omega
        · have t1 : ((s[k].toNat : Int) == 34) = false := ne_byte (b := 34) h34
          have t2 : ((s[k].toNat : Int) == 92) = false := ne_byte (b := 92) h92
          have HST : Hid (L ++ [s[k]] = 34 :: (s.data.toList.take (k + 1)).flatMap escB) := Lib.hid (by
            rw [hst, HL.out]
            unfold escB
            rw [if_neg (by simp [h34, h92])]
            simp)
          clear hst h34 h92 hlen
          go_wp2_with (first | (at_builtin; refine wpList_append_own _ rfl _ _ 43 rfl w.heap.size 5 i0 (.int .u8 0) 1 1 Tryd.underlying43 hi hz0 hz1 hz2 rfl (by decide) _ _ _ rfl (hown.alloc _) ⟨wr.heap.size, 0, none⟩ 1 1 [.int .u8 (s[k].toNat : Int)] rfl rfl (cell_one_new _ _ _) (by simp [Value.oneCell']) (by unfold maxLen; omega) (by omega) (by simp; omega) ?_; intro v3 w3 hO3 hg3 _; have hB3 : Below w.heap.size w w3 := (hB.alloc hsz _).grown hg3 (by simp; omega) (fun k e => (hown.lt k e).1)))
          have hrow : w3.ownsRow w.heap.size 5 1 v3 (L ++ [s[k]]).length ((L ++ [s[k]]).map bv) := by
            have h := hO3
            simpa [bv] using h
          go_roundw
          case rel => exact ⟨k + 1, L ++ [s[k]], by omega, by go_num, HST, by simp; omega, hrow, hB3⟩
          case measure => simp [intOf]; omega
    · have HQ : Hid (L ++ [34] = quoteL s.data.toList) := Lib.hid (by
        rw [HL.out, List.take_of_length_le (by omega)]
        rfl)
      clear hlen
      go_wp2_with (first | (at_builtin; refine wpList_append_own _ rfl _ _ 43 rfl w.heap.size 5 i0 (.int .u8 0) 1 1 Tryd.underlying43 hi hz0 hz1 hz2 rfl (by decide) _ _ _ rfl (hown.alloc _) ⟨wr.heap.size, 0, none⟩ 1 1 [.int .u8 34] rfl rfl (cell_one_new _ _ _) (by simp [Value.oneCell']) (by unfold maxLen; omega) (by omega) (by simp; omega) ?_; intro v3 w3 hO3 hg3 _; have hB3 : Below w.heap.size w w3 := (hB.alloc hsz _).grown hg3 (by simp; omega) (fun k e => (hown.lt k e).1)))
      have hrow : w3.ownsRow w.heap.size 5 1 v3 (L ++ [34]).length ((L ++ [34]).map bv) := by
        have h := hO3
        simpa [bv] using h
      have hback := rowJ_back (P := Tryd.prog) hrow 43 9 5 Tryd.underlying43 Tryd.underlying5 Tryd.underlying9
      rw [hback]
      go_wp2_with fail
      go_ret
      exact ⟨by rw [← HQ.out]; rfl, hB3⟩

end Go.Proofs.YtgebkpnieailbaaDoor
