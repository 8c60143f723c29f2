/-
  Words: the walks of spec's l03Has, l03Atom, AtomOk.
-/
import Derived.Test.YtconopkmiicjeaaDoorWdO
import Derived.Test.YtconopkmiicjeaaDoorIn
import Derived.Lib.Strings
namespace Go.Proofs.YtconopkmiicjeaaDoor
set_option linter.unusedVariables false
open Go.RowKit

theorem byte_at (s : ByteArray) (k : Nat) (h : k < s.size) : s.data.toList.getD k 0 = s[k] := by
  rw [List.getD_eq_getElem?_getD, List.getElem?_eq_getElem (by simpa using h)]
  rfl
theorem ne_byte {a b : UInt8} (h : a ≠ b) : ((a.toNat : Int) == (b.toNat : Int)) = false := by
  rw [beq_eq_false_iff_ne]
  intro e
  exact h (UInt8.toNat_inj.1 (by omega))

set_option maxHeartbeats 400000 in
theorem has_any (s : ByteArray) (b : UInt8) (w : World) (hs : s.size ≤ 1000000000) :
    Calls Tryd.prog 37 #[.string s, .int .u8 b.toNat] w fun e w' => e = .returned (.bool (hasL b s.data.toList)) ∧ w' = w := by
  generalize hH : hasL b s.data.toList = H
  have HH := Lib.hid hH
  clear hH
  go_enter Tryd.func37, Tryd.ntmps37
  go_wp2
  go_loopw [5] (fun i wr => ∃ k : Nat, k ≤ s.size ∧ i = .int .i64 (k : Int) ∧ Hid (hasL b (s.data.toList.take k) = false) ∧ wr = w) (fun i _ => s.size - (intOf i).toNat)
  case atStart => exact ⟨0, by omega, rfl, Lib.hid rfl, rfl⟩
  case round =>
    obtain ⟨k, hk, rfl, HN, rfl⟩ := hrel
    have hlen : s.data.toList.length = s.size := by simp
    by_cases hlt : k < s.size
    · by_cases he : s[k] = b
      · have t1 : ((s[k].toNat : Int) == (b.toNat : Int)) = true := by rw [he, beq_iff_eq]
        have HT : Hid (H = true) := Lib.hid (by rw [← HH.out]; exact has_true b _ k (by omega) (by rw [byte_at s k hlt, he]))
        clear he hlen
        go_wp2_with fail
        go_ret
        exact ⟨by rw [HT.out]; rfl, rfl⟩
      · have t1 := ne_byte he
        have HN2 : Hid (hasL b (s.data.toList.take (k + 1)) = false) := Lib.hid (by
          rw [hasL_take b _ k (by omega), HN.out, byte_at s k hlt]
          simpa using he)
        clear he hlen
        go_wp2_with fail
        go_roundw
        case rel => exact ⟨k + 1, by omega, by go_num, HN2, trivial⟩
        case measure => simp [intOf]; omega
    · have HF : Hid (H = false) := Lib.hid (by
        have := HN.out
        rw [List.take_of_length_le (by omega), HH.out] at this
        exact this)
      go_wp2_with fail
      go_ret
      exact ⟨by rw [HF.out]; rfl, rfl⟩

def specialsA : ByteArray := ⟨#[40, 41, 123, 37, 42, 34, 92, 93]⟩
set_option maxHeartbeats 400000 in
theorem atom_any (b : UInt8) (w : World) :
    Calls Tryd.prog 49 #[.int .u8 b.toNat] w fun e w' => e = .returned (.bool (atomB b)) ∧ w' = w := by
  have H := Lib.hid (fun w => has_any specialsA b w (by decide))
  have hx : b.toNat < 256 := UInt8.toNat_lt _
  by_cases hin : 33 ≤ b.toNat ∧ b.toNat ≤ 126
  · have e : atomB b = !hasL b specialsA.data.toList := by
      unfold atomB
      rw [decide_eq_true hin]
      rfl
    rw [e]
    obtain ⟨h1, h2⟩ := hin
    generalize hasL b specialsA.data.toList = v at H
    clear e
    go_enter Tryd.func49, Tryd.ntmps49
    go_wp2_with fail
    refine (in_yes _ _ _ _ (by omega) (by omega)).mono ?_
    rintro e w1 ⟨rfl, rfl⟩
    go_wp2_with fail
    refine (H.out _).mono ?_
    rintro e w2 ⟨rfl, rfl⟩
    go_wp2_with fail
    go_ret
    exact ⟨rfl, rfl⟩
  · have e : atomB b = false := by
      unfold atomB
      rw [decide_eq_false hin]
      rfl
    rw [e]
    have hno : (b.toNat : Int) < 33 ∨ 126 < (b.toNat : Int) := by omega
    have HNO := Lib.hid hno
    clear hno hin e
    go_enter Tryd.func49, Tryd.ntmps49
    go_wp2_with fail
    refine (in_no _ _ _ _ HNO.out).mono ?_
    rintro e w1 ⟨rfl, rfl⟩
    go_wp2_with fail
    go_ret
    exact ⟨rfl, rfl⟩

set_option maxHeartbeats 400000 in
theorem specAtomOk_any (s : ByteArray) (w : World) (hs : s.size ≤ 1000000000) :
    Calls Tryd.prog 24 #[.string s] w fun e w' => e = .returned (.bool (atomOk s.data.toList)) ∧ w' = w := by
  generalize hH : atomOk s.data.toList = H
  have HH := Lib.hid hH
  clear hH
  go_enter Tryd.func24, Tryd.ntmps24
  go_wp2
  go_loopw [3] (fun i wr => ∃ k : Nat, k ≤ s.size ∧ i = .int .i64 (k : Int) ∧ Hid ((s.data.toList.take k).all atomB = true) ∧ wr = w) (fun i _ => s.size - (intOf i).toNat)
  case atStart => exact ⟨0, by omega, rfl, Lib.hid rfl, rfl⟩
  case round =>
    obtain ⟨k, hk, rfl, HN, rfl⟩ := hrel
    have hlen : s.data.toList.length = s.size := by simp
    by_cases hlt : k < s.size
    · have AT := Lib.hid (fun w => atom_any s[k] w)
      cases ha : atomB s[k] with
      | true =>
        rw [ha] at AT
        have HN2 : Hid ((s.data.toList.take (k + 1)).all atomB = true) := Lib.hid (by rw [all_take atomB _ k (by omega), HN.out, byte_at s k hlt, ha]; rfl)
        clear ha hlen
        go_wp2_with fail
        refine (AT.out _).mono ?_
        rintro e w1 ⟨rfl, rfl⟩
        go_wp2_with fail
        go_roundw
        case rel => exact ⟨k + 1, by omega, by go_num, HN2, trivial⟩
        case measure => simp [intOf]; omega
      | false =>
        rw [ha] at AT
        have HT : Hid (H = false) := Lib.hid (by
          rw [← HH.out]
          unfold atomOk
          rw [all_false atomB _ k (by omega) (by rw [byte_at s k hlt, ha])]
          rfl)
        clear ha hlen
        go_wp2_with fail
        refine (AT.out _).mono ?_
        rintro e w1 ⟨rfl, rfl⟩
        go_wp2_with fail
        go_ret
        exact ⟨by rw [HT.out]; rfl, rfl⟩
    · have hall := HN.out
      rw [List.take_of_length_le (by omega)] at hall
      by_cases h0 : s.size = 0
      · have e : s = ⟨#[]⟩ := by
          apply ByteArray.ext
          apply Array.ext'
          exact List.eq_nil_of_length_eq_zero (by omega)
        subst e
        have HF : Hid (H = false) := Lib.hid (by rw [← HH.out]; rfl)
        clear hall hlen h0
        go_wp2_with fail
        go_ret
        exact ⟨by rw [HF.out]; rfl, rfl⟩
      · have hne : s.data.toList.isEmpty = false := by
          cases h : s.data.toList with
          | nil => rw [h] at hlen; simp at hlen; omega
          | cons x l => rfl
        have hemp : s.toList.isEmpty = false := by rw [Lib.toList_data]; exact hne
        have HF : Hid (H = true) := Lib.hid (by
          rw [← HH.out]
          unfold atomOk
          rw [hall, hne]
          rfl)
        clear hall hne hlen
        go_wp2_with fail
        go_ret
        exact ⟨by rw [HF.out]; rfl, rfl⟩

end Go.Proofs.YtconopkmiicjeaaDoor
