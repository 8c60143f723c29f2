/-
  Addresses: the walk of spec's Unquote.
-/
import Derived.Test.YtplaomiegkaaiaaDoorAdP
import Derived.Test.YtplaomiegkaaiaaDoorHasS
import Derived.Test.YtplaomiegkaaiaaDoorRow
namespace Go.Proofs.YtplaomiegkaaiaaDoor
set_option linter.unusedVariables false
open Go.RowKit

theorem unesc_skip (l : List UInt8) (k : Nat) (c : UInt8) (h1 : l[k]? = some 92) (h2 : l[k + 1]? = some c) : unesc (l.drop k) = c :: unesc (l.drop (k + 2)) := by
  have a1 := (List.getElem?_eq_some_iff.1 h1).1
  have a2 := (List.getElem?_eq_some_iff.1 h2).1
  rw [List.getElem?_eq_getElem a1] at h1
  rw [List.getElem?_eq_getElem a2] at h2
  rw [List.drop_eq_getElem_cons a1, List.drop_eq_getElem_cons a2, Option.some.inj h1, Option.some.inj h2, unesc, if_pos rfl]
theorem unesc_take (l : List UInt8) (k : Nat) (b : UInt8) (h1 : l[k]? = some b) (h2 : b ≠ 92 ∨ l.length ≤ k + 1) : unesc (l.drop k) = b :: unesc (l.drop (k + 1)) := by
  have a1 := (List.getElem?_eq_some_iff.1 h1).1
  rw [List.getElem?_eq_getElem a1] at h1
  rw [List.drop_eq_getElem_cons a1, Option.some.inj h1]
  rcases h2 with h2 | h2
  · exact unesc_cons b _ h2
  · rw [List.drop_eq_nil_of_le h2]
    rfl
theorem byte_some (s : ByteArray) (k : Nat) (h : k < s.size) : s.data.toList[k]? = some s[k] := by
  rw [List.getElem?_eq_getElem (by simpa using h)]
  rfl
theorem quoted_small (t : ByteArray) (h : t.size < 2) : quotedL t.data.toList = false := by
  unfold quotedL
  rw [decide_eq_false (by simpa using h)]
  rfl
theorem quoted_is (t : ByteArray) (h : 2 ≤ t.size) : quotedL t.data.toList = ((t[0] == 34) && (t[t.size - 1] == 34)) := by
  unfold quotedL
  have hl : t.data.toList.length = t.size := by simp
  rw [decide_eq_true (by omega), hl, byte_at t 0 (by omega), byte_at t (t.size - 1) (by omega), Bool.true_and]
theorem ne_form {b c : UInt8} (h : b ≠ c) : ((b.toNat : Int) != (c.toNat : Int)) = true := by
  rw [bne_iff_ne]
  intro e
  exact h (UInt8.toNat_inj.1 (by omega))
theorem eq_form {b c : UInt8} (h : b = c) : ((b.toNat : Int) != (c.toNat : Int)) = false := by rw [h]; simp
/-- The text between the quotes. -/
def midL (t : ByteArray) : List UInt8 := (t.data.toList.drop 1).take (t.size - 2)
theorem mid_len (t : ByteArray) : (midL t).length = t.size - 2 := by
  unfold midL
  rw [List.length_take, List.length_drop, show t.data.toList.length = t.size by simp]
  omega
theorem mid_at (t : ByteArray) (k : Nat) (h : k < t.size - 2) : (midL t)[k]? = some (t[k + 1]'(by omega)) := by
  unfold midL
  rw [List.getElem?_take, if_pos h, List.getElem?_drop, Nat.add_comm 1 k, byte_some t (k + 1) (by omega)]

theorem mid_from (t : ByteArray) (j : Nat) (h1 : 1 ≤ j) (h : j < t.size - 1) : (midL t)[j - 1]? = some (t[j]'(by omega)) := by
  obtain ⟨k, rfl⟩ : ∃ k, j = k + 1 := ⟨j - 1, by omega⟩
  exact mid_at t k (by omega)
theorem mid_skip (t : ByteArray) (L R : List UInt8) (j : Nat) (h1 : 1 ≤ j) (h : j + 1 < t.size - 1) (h92 : t[j]'(by omega) = 92) (hL : L ++ unesc ((midL t).drop (j - 1)) = R) :
    (L ++ [t[j + 1]'(by omega)]) ++ unesc ((midL t).drop (j + 2 - 1)) = R := by
  have e1 := mid_from t j h1 (by omega)
  have e2 := mid_from t (j + 1) (by omega) h
  rw [h92] at e1
  rw [show j + 1 - 1 = j - 1 + 1 by omega] at e2
  rw [← hL, unesc_skip _ (j - 1) _ e1 e2, List.append_assoc, show j + 2 - 1 = j - 1 + 2 by omega]
  rfl
theorem mid_take (t : ByteArray) (L R : List UInt8) (j : Nat) (h1 : 1 ≤ j) (h : j < t.size - 1) (hn : t[j]'(by omega) ≠ 92 ∨ t.size - 1 ≤ j + 1) (hL : L ++ unesc ((midL t).drop (j - 1)) = R) :
    (L ++ [t[j]'(by omega)]) ++ unesc ((midL t).drop (j + 1 - 1)) = R := by
  have e1 := mid_from t j h1 (by omega)
  rw [← hL, unesc_take _ (j - 1) _ e1 (hn.imp id (fun h => by rw [mid_len]; omega)), List.append_assoc, show j + 1 - 1 = j - 1 + 1 by omega]
  rfl

set_option maxRecDepth 100000 in
set_option maxHeartbeats 1000000 in
theorem specUnquote_any (s : ByteArray) (w : World) (hs : s.size ≤ 1048576) :
    Calls Tryd.prog 23 #[.string s] w fun e w' => e = .returned (.string (mkB (unqL s.data.toList))) ∧ Below w.heap.size w w' := by
  obtain ⟨i0, hi, hz0, hz1, hz2⟩ := info_parts infoByteJ
  have TR := Lib.hid (fun w => specTrim_any s w hs)
  unfold unqL
  have htl := trimLen s.data.toList [32, 9]
  generalize Lib.trimS s.data.toList [32, 9] = T at TR htl ⊢
  obtain ⟨t, rfl⟩ : ∃ t : ByteArray, T = t.data.toList := ⟨mkB T, rfl⟩
  rw [show (⟨t.data.toList.toArray⟩ : ByteArray) = t from rfl] at TR
  have hts : t.size ≤ 1048576 := by simp at htl; omega
  clear htl
  by_cases h2 : t.size < 2
  · have g1 : decide ((t.size : Int) < 2) = true := by simp; omega
    unfold unqT
    rw [quoted_small t h2, if_neg (by simp), show mkB t.data.toList = t from rfl]
    clear h2
    go_enter Tryd.func23, Tryd.ntmps23
    go_wp2_with fail
    refine (TR.out _).mono ?_
    rintro e w1 ⟨rfl, rfl⟩
    go_wp2_with fail
    go_ret
    exact ⟨rfl, Below.refl _ _⟩
  · have g1 : decide ((t.size : Int) < 2) = false := by simp; omega
    have i0' : 0 < t.size := by omega
    have i1 : (0 : Int) ≤ (t.size : Int) - 1 := by omega
    have i2 : (t.size : Int) - 1 < (t.size : Int) := by omega
    have i3 : t.size - 1 < t.size := by omega
    have hq := quoted_is t (by omega)
    by_cases h0 : t[0] = 34
    · have g2 : ((t[0].toNat : Int) != 34) = false := eq_form (c := 34) h0
      by_cases hL : t[t.size - 1] = 34
      · have g3 : ((t[t.size - 1].toNat : Int) != 34) = false := eq_form (c := 34) hL
        rw [h0, hL] at hq
        have hR : unqT t.data.toList = unesc (midL t) := by
          unfold unqT midL
          rw [hq]
          simp
        rw [hR]
        obtain ⟨R, hR2⟩ : ∃ R, unesc (midL t) = R := ⟨_, rfl⟩
        rw [hR2]
        have HR : Hid (unesc ((midL t).drop 0) = R) := Lib.hid (by rw [List.drop_zero]; exact hR2)
        have H2 : Hid (2 ≤ t.size) := Lib.hid (by omega)
        clear hR hR2 hq h0 hL h2
        go_enter Tryd.func23, Tryd.ntmps23
        go_wp2_with fail
        refine (TR.out _).mono ?_
        rintro e w1 ⟨rfl, rfl⟩
        go_wp2_with fail
        go_loopw [4, 5] (fun o i wr => ∃ (j : Nat) (L : List UInt8), 1 ≤ j ∧ j ≤ t.size - 1 ∧ i = .int .i64 (j : Int) ∧ Hid (L ++ unesc ((midL t).drop (j - 1)) = R) ∧ L.length ≤ j ∧ wr.ownsRow w1.heap.size 5 1 o L.length (L.map bv) ∧ Below w1.heap.size w1 wr) (fun _ i _ => t.size - (intOf i).toNat)
        case atStart => exact ⟨1, [], Nat.le_refl _, by have := H2.out; omega, rfl, HR, by simp, World.ownsRow_lit w1 #[] 0 (Nat.le_refl _) (by decide) rfl, (Below.refl _ _).alloc (Nat.le_refl _) _⟩
        case round =>
          obtain ⟨j, L, hj1, hj, rfl, HL, hLl, hown, hB⟩ := hrel
          have hsz := hB.size
          have h2 := H2.out
          clear HR
          by_cases hlt : j < t.size - 1
          · have d1 : decide ((j : Int) < (t.size : Int) - 1) = true := by simp; omega
            have j1 : (0 : Int) ≤ (j : Int) := by omega
            have j2 : (j : Int) < (t.size : Int) := by omega
            have j3 : j < t.size := by omega
            by_cases h92 : t[j] = 92
            · have d2 : ((t[j].toNat : Int) == 92) = true := by rw [h92]; rfl
              by_cases hlt2 : j + 1 < t.size - 1
              · have d3 : decide ((j : Int) + 1 < (t.size : Int) - 1) = true := by simp; omega
                have j4 : (0 : Int) ≤ (j : Int) + 1 := by omega
                have j5 : (j : Int) + 1 < (t.size : Int) := by omega
                have j6 : j + 1 < t.size := by omega
                have HN := Lib.hid (mid_skip t L R j hj1 hlt2 h92 HL.out)
                clear h92 HL
                go_wp2_with (first | (at_builtin; refine wpList_append_own _ rfl _ _ 22 rfl w1.heap.size 5 i0 (.int .u8 0) 1 1 Tryd.underlying22 hi hz0 hz1 hz2 rfl (by decide) _ _ _ rfl (hown.alloc _) ⟨wr.heap.size, 0, none⟩ 1 1 [.int .u8 (t[j + 1].toNat : Int)] rfl rfl (cell_one_new _ _ _) (by simp [Value.oneCell']) (by unfold maxLen; omega) (by omega) (by simp; omega) ?_; intro v3 w3 hO3 hg3 _; have hB3 : Below w1.heap.size w1 w3 := (hB.alloc hsz _).grown hg3 (by simp; omega) (fun k e => (hown.lt k e).1)))
                have hrow : w3.ownsRow w1.heap.size 5 1 v3 (L ++ [t[j + 1]]).length ((L ++ [t[j + 1]]).map bv) := by simpa [bv] using hO3
                clear hown hO3 hg3
                go_wp2_with fail
                go_roundw
                case rel => exact ⟨j + 2, L ++ [t[j + 1]], by omega, by omega, by go_num, HN, by simp; omega, hrow, hB3⟩
                case measure => simp [intOf]; omega
              · have d3 : decide ((j : Int) + 1 < (t.size : Int) - 1) = false := by simp; omega
                have HN := Lib.hid (mid_take t L R j hj1 hlt (.inr (by omega)) HL.out)
                clear h92 HL
                go_wp2_with (first | (at_builtin; refine wpList_append_own _ rfl _ _ 22 rfl w1.heap.size 5 i0 (.int .u8 0) 1 1 Tryd.underlying22 hi hz0 hz1 hz2 rfl (by decide) _ _ _ rfl (hown.alloc _) ⟨wr.heap.size, 0, none⟩ 1 1 [.int .u8 (t[j].toNat : Int)] rfl rfl (cell_one_new _ _ _) (by simp [Value.oneCell']) (by unfold maxLen; omega) (by omega) (by simp; omega) ?_; intro v3 w3 hO3 hg3 _; have hB3 : Below w1.heap.size w1 w3 := (hB.alloc hsz _).grown hg3 (by simp; omega) (fun k e => (hown.lt k e).1)))
                have hrow : w3.ownsRow w1.heap.size 5 1 v3 (L ++ [t[j]]).length ((L ++ [t[j]]).map bv) := by simpa [bv] using hO3
                clear hown hO3 hg3
                go_wp2_with fail
                go_roundw
                case rel => exact ⟨j + 1, L ++ [t[j]], by omega, by omega, by go_num, HN, by simp; omega, hrow, hB3⟩
                case measure => simp [intOf]; omega
            · have d2 : ((t[j].toNat : Int) == 92) = false := ne_byte (b := 92) h92
              have HN := Lib.hid (mid_take t L R j hj1 hlt (.inl h92) HL.out)
              clear h92 HL
              go_wp2_with (first | (at_builtin; refine wpList_append_own _ rfl _ _ 22 rfl w1.heap.size 5 i0 (.int .u8 0) 1 1 Tryd.underlying22 hi hz0 hz1 hz2 rfl (by decide) _ _ _ rfl (hown.alloc _) ⟨wr.heap.size, 0, none⟩ 1 1 [.int .u8 (t[j].toNat : Int)] rfl rfl (cell_one_new _ _ _) (by simp [Value.oneCell']) (by unfold maxLen; omega) (by omega) (by simp; omega) ?_; intro v3 w3 hO3 hg3 _; have hB3 : Below w1.heap.size w1 w3 := (hB.alloc hsz _).grown hg3 (by simp; omega) (fun k e => (hown.lt k e).1)))
              have hrow : w3.ownsRow w1.heap.size 5 1 v3 (L ++ [t[j]]).length ((L ++ [t[j]]).map bv) := by simpa [bv] using hO3
              clear hown hO3 hg3
              go_wp2_with fail
              go_roundw
              case rel => exact ⟨j + 1, L ++ [t[j]], by omega, by omega, by go_num, HN, by simp; omega, hrow, hB3⟩
              case measure => simp [intOf]; omega
          · have d1 : decide ((j : Int) < (t.size : Int) - 1) = false := by simp; omega
            have HQ : Hid (L = R) := Lib.hid (by
              have := HL.out
              rw [List.drop_eq_nil_of_le (by rw [mid_len]; omega)] at this
              simpa [unesc] using this)
            have hback := rowJ_back (P := Tryd.prog) hown 22 9 5 Tryd.underlying22 Tryd.underlying5 Tryd.underlying9
            go_wp2_with fail
            go_ret
            exact ⟨by rw [← HQ.out]; rfl, hB⟩
      · have g3 : ((t[t.size - 1].toNat : Int) != 34) = true := ne_form (c := 34) hL
        unfold unqT
        rw [hq, h0, beq_eq_false_iff_ne.2 hL, if_neg (by simp), show mkB t.data.toList = t from rfl]
        clear hq h0 hL h2
        go_enter Tryd.func23, Tryd.ntmps23
        go_wp2_with fail
        refine (TR.out _).mono ?_
        rintro e w1 ⟨rfl, rfl⟩
        go_wp2_with fail
        go_ret
        exact ⟨rfl, Below.refl _ _⟩
    · have g2 : ((t[0].toNat : Int) != 34) = true := ne_form (c := 34) h0
      unfold unqT
      rw [hq, beq_eq_false_iff_ne.2 h0, if_neg (by simp), show mkB t.data.toList = t from rfl]
      clear hq h0 h2
      go_enter Tryd.func23, Tryd.ntmps23
      go_wp2_with fail
      refine (TR.out _).mono ?_
      rintro e w1 ⟨rfl, rfl⟩
      go_wp2_with fail
      go_ret
      exact ⟨rfl, Below.refl _ _⟩
end Go.Proofs.YtplaomiegkaaiaaDoor
