/-
  The sign at a place: the walk of spec's l02Next.
-/
import Derived.Test.YtdgdflbhjbgmdaaDoorPuB
import Derived.Lib.Strings
import Derived.Deep.RegionHeld3
namespace Go.Proofs.YtdgdflbhjbgmdaaDoor
set_option linter.unusedVariables false
open Go.RowKit

def NextAt (s : ByteArray) (i : Nat) (w : World) (e : Ending) (w' : World) : Prop :=
  e = .returned (.tuple #[.int .i64 ((nextL s.data.toList i).1 : Int), .int .i64 ((nextL s.data.toList i).2 : Int)]) ∧ Below w.heap.size w w'

set_option maxRecDepth 100000 in
set_option maxHeartbeats 2000000 in
theorem next_any (s : ByteArray) (i : Nat) (w : World) (hs : s.size ≤ 67108864) (hi : i < s.size) :
    Calls Tryd.prog 26 #[.string s, .int .i64 i] w (NextAt s i w) := by
  have hb : byteAt s.data.toList i = s[i].toNat := by
    unfold byteAt
    rw [List.getD_eq_getElem?_getD, List.getElem?_eq_getElem (by simpa using hi)]
    rfl
  have hb256 : s[i].toNat < 256 := UInt8.toNat_lt _
  obtain ⟨N, hN⟩ : ∃ N, N = leadN s[i].toNat := ⟨_, rfl⟩
  have hN14 : 1 ≤ N ∧ N ≤ 4 := by rw [hN]; unfold leadN; split <;> (try split) <;> (try split) <;> omega
  obtain ⟨R0, hR0⟩ : ∃ R0, R0 = leadR s[i].toNat := ⟨_, rfl⟩
  have hR0l : R0 < 256 := by rw [hR0]; unfold leadR; split <;> (try split) <;> (try split) <;> omega
  have HNEXT : Hid (nextL s.data.toList i = if s.size < i + N then (0, 0) else if putL (moreR s.data.toList i (N - 1)) = (s.data.toList.drop i).take N then (moreR s.data.toList i (N - 1), N) else (0, 0)) := Lib.hid (by
    unfold nextL
    rw [hb, ← hN]
    have : s.data.toList.length = s.size := by simp
    rw [this])
  have HM0 : Hid (moreR s.data.toList i 0 = R0) := Lib.hid (by show leadR _ = R0; rw [hb, ← hR0])
  unfold leadN at hN
  unfold leadR at hR0
  generalize hx : s[i].toNat = x at hN hR0 hb256
  have HX := Lib.hid hx
  have hcases : (240 ≤ x ∧ N = 4 ∧ R0 = x - 240) ∨ (224 ≤ x ∧ x < 240 ∧ N = 3 ∧ R0 = x - 224) ∨ (192 ≤ x ∧ x < 224 ∧ N = 2 ∧ R0 = x - 192) ∨ (x < 192 ∧ N = 1 ∧ R0 = x) := by
    rw [hN, hR0]
    split
    · left; omega
    · split
      · right; left; omega
      · split
        · right; right; left; omega
        · right; right; right; omega
  clear hN hR0 hb
  have HCASES := Lib.hid hcases
  clear hcases
  go_enter Tryd.func26, Tryd.ntmps26
  rcases HCASES.out with ⟨c1, rfl, rfl⟩ | ⟨c1, c2, rfl, rfl⟩ | ⟨c1, c2, rfl, rfl⟩ | ⟨c1, rfl, rfl⟩
  · by_cases hroom : s.size < i + 4
    · have HV : Hid (nextL s.data.toList i = (0, 0)) := Lib.hid (by rw [HNEXT.out, if_pos hroom])
      go_wp2_with fail
      go_ret2
      exact ⟨by rw [HV.out]; rfl, Below.refl _ _⟩
    · have HR : Hid (¬ s.size < i + 4) := Lib.hid hroom
      have hroom2 : i + 4 ≤ s.size := by omega
      clear hroom
      obtain ⟨wo, rfl⟩ : ∃ wo : World, wo = w := ⟨_, rfl⟩
      go_wp2_with fail
      go_loopw [8, 9] (fun r k wr => ∃ (j R : Nat), j + 1 ≤ 4 ∧ k = .int .i64 ((j : Int) + 1) ∧ r = .int .i64 (R : Int) ∧ Hid (moreR s.data.toList i j = R) ∧ wr = wo) (fun _ k _ => 4 - (intOf k).toNat)
      case atStart => exact ⟨0, x - 240, by omega, by go_num, by go_num, HM0, rfl⟩
      case round =>
        obtain ⟨j, R, hj, rfl, rfl, HM, rfl⟩ := hrel
        have hRl : R < 67108864 := by
          have h1 := moreR_lt s.data.toList i j
          rw [HM.out] at h1
          have h2 : 64 ^ j ≤ 64 ^ 3 := Nat.pow_le_pow_right (by omega) (by omega)
          have h3 : 64 ^ 3 = 262144 := by decide
          omega
        by_cases hlt : j + 1 < 4
        · have hin : i + (j + 1) < s.size := by omega
          have hbb : byteAt s.data.toList (i + 1 + j) = s[i + (j + 1)].toNat := by
            unfold byteAt
            rw [List.getD_eq_getElem?_getD, show i + 1 + j = i + (j + 1) by omega, List.getElem?_eq_getElem (by simpa using hin)]
            rfl
          have hy256 : s[i + (j + 1)].toNat < 256 := UInt8.toNat_lt _
          generalize hy : s[i + (j + 1)].toNat = y at hbb hy256
          have HST : Hid (moreR s.data.toList i (j + 1) = R * 64 + y % 64) := Lib.hid (by show moreR s.data.toList i j * 64 + _ = _; rw [HM.out, hbb])
          clear hbb
          go_wp2_with fail
          go_roundw
          case rel => exact ⟨j + 1, R * 64 + y % 64, by omega, by go_num, by go_num, HST, trivial⟩
          case measure => simp [intOf]; omega
        · have hj' : j = 4 - 1 := by omega
          have HM2 : Hid (moreR s.data.toList i (4 - 1) = R) := Lib.hid (by rw [← hj', HM.out])
          clear hj'
          have hput : ∀ w, Calls Tryd.prog 42 #[.int .i64 (R : Int)] w fun e w' => e = .returned (.string ⟨(putL R).toArray⟩) ∧ Below w.heap.size w w' := fun w => put_any R w (by omega)
          generalize hP : (⟨(putL R).toArray⟩ : ByteArray) = P at hput
          have PUT := Lib.hid hput
          clear hput
          by_cases he : P = s.extract i (i + 4)
          · have heq : (P.toList == (s.extract i ((i : Int) + 4).toNat).toList) = true := by rw [show ((i : Int) + 4).toNat = i + 4 by omega, he]; exact beq_self_eq_true _
            have HV : Hid (nextL s.data.toList i = (R, 4)) := Lib.hid (by
              rw [HNEXT.out, if_neg HR.out, HM2.out, if_pos]
              have e1 : putL R = P.data.toList := by rw [← hP]
              rw [e1, he, Lib.extract_data]
              congr 1
              omega)
            clear he hP
            go_wp2_with fail
            have q1 : IntKind.i64.wrap ((i : Int) + 4) = (i : Int) + 4 := by rw [IntKind.wrap_i64]; omega
            have q2 : (0 : Int) ≤ (i : Int) := by omega
            have q3 : (0 : Int) ≤ (i : Int) + 4 := by omega
            have q4 : (i : Int) ≤ (i : Int) + 4 := by omega
            have q5 : (i : Int) + 4 ≤ (s.size : Int) := by omega
            go_region_held3 (fun _ => True) (first | go_keep | exact trivial) (first | (go_at_call 42; refine (PUT.out _).mono ?_; rintro e w2 ⟨rfl, hB2⟩))
            go_wp2_with fail
            go_ret2
            exact ⟨by rw [HV.out]; rfl, (Below.refl _ _).drew.trans hB2⟩
          · have hne1 : (P.toList == (s.extract i ((i : Int) + 4).toNat).toList) = false := by
              rw [show ((i : Int) + 4).toNat = i + 4 by omega, beq_eq_false_iff_ne, Lib.toList_data, Lib.toList_data]
              intro e; apply he
              exact ByteArray.ext (Array.ext' e)
            have HV : Hid (nextL s.data.toList i = (0, 0)) := Lib.hid (by
              rw [HNEXT.out, if_neg HR.out, HM2.out, if_neg]
              intro e1
              apply he
              apply ByteArray.ext
              apply Array.ext'
              rw [Lib.extract_data, show i + 4 - i = 4 by omega, ← e1, ← hP])
            clear he hP
            go_wp2_with fail
            have q1 : IntKind.i64.wrap ((i : Int) + 4) = (i : Int) + 4 := by rw [IntKind.wrap_i64]; omega
            have q2 : (0 : Int) ≤ (i : Int) := by omega
            have q3 : (0 : Int) ≤ (i : Int) + 4 := by omega
            have q4 : (i : Int) ≤ (i : Int) + 4 := by omega
            have q5 : (i : Int) + 4 ≤ (s.size : Int) := by omega
            go_region_held3 (fun _ => True) (first | go_keep | exact trivial) (first | (go_at_call 42; refine (PUT.out _).mono ?_; rintro e w2 ⟨rfl, hB2⟩))
            go_wp2_with fail
            go_ret2
            exact ⟨by rw [HV.out]; rfl, (Below.refl _ _).drew.trans hB2⟩
  · by_cases hroom : s.size < i + 3
    · have HV : Hid (nextL s.data.toList i = (0, 0)) := Lib.hid (by rw [HNEXT.out, if_pos hroom])
      go_wp2_with fail
      go_ret2
      exact ⟨by rw [HV.out]; rfl, Below.refl _ _⟩
    · have HR : Hid (¬ s.size < i + 3) := Lib.hid hroom
      have hroom2 : i + 3 ≤ s.size := by omega
      clear hroom
      obtain ⟨wo, rfl⟩ : ∃ wo : World, wo = w := ⟨_, rfl⟩
      go_wp2_with fail
      go_loopw [8, 9] (fun r k wr => ∃ (j R : Nat), j + 1 ≤ 3 ∧ k = .int .i64 ((j : Int) + 1) ∧ r = .int .i64 (R : Int) ∧ Hid (moreR s.data.toList i j = R) ∧ wr = wo) (fun _ k _ => 3 - (intOf k).toNat)
      case atStart => exact ⟨0, x - 224, by omega, by go_num, by go_num, HM0, rfl⟩
      case round =>
        obtain ⟨j, R, hj, rfl, rfl, HM, rfl⟩ := hrel
        have hRl : R < 67108864 := by
          have h1 := moreR_lt s.data.toList i j
          rw [HM.out] at h1
          have h2 : 64 ^ j ≤ 64 ^ 3 := Nat.pow_le_pow_right (by omega) (by omega)
          have h3 : 64 ^ 3 = 262144 := by decide
          omega
        by_cases hlt : j + 1 < 3
        · have hin : i + (j + 1) < s.size := by omega
          have hbb : byteAt s.data.toList (i + 1 + j) = s[i + (j + 1)].toNat := by
            unfold byteAt
            rw [List.getD_eq_getElem?_getD, show i + 1 + j = i + (j + 1) by omega, List.getElem?_eq_getElem (by simpa using hin)]
            rfl
          have hy256 : s[i + (j + 1)].toNat < 256 := UInt8.toNat_lt _
          generalize hy : s[i + (j + 1)].toNat = y at hbb hy256
          have HST : Hid (moreR s.data.toList i (j + 1) = R * 64 + y % 64) := Lib.hid (by show moreR s.data.toList i j * 64 + _ = _; rw [HM.out, hbb])
          clear hbb
          go_wp2_with fail
          go_roundw
          case rel => exact ⟨j + 1, R * 64 + y % 64, by omega, by go_num, by go_num, HST, trivial⟩
          case measure => simp [intOf]; omega
        · have hj' : j = 3 - 1 := by omega
          have HM2 : Hid (moreR s.data.toList i (3 - 1) = R) := Lib.hid (by rw [← hj', HM.out])
          clear hj'
          have hput : ∀ w, Calls Tryd.prog 42 #[.int .i64 (R : Int)] w fun e w' => e = .returned (.string ⟨(putL R).toArray⟩) ∧ Below w.heap.size w w' := fun w => put_any R w (by omega)
          generalize hP : (⟨(putL R).toArray⟩ : ByteArray) = P at hput
          have PUT := Lib.hid hput
          clear hput
          by_cases he : P = s.extract i (i + 3)
          · have heq : (P.toList == (s.extract i ((i : Int) + 3).toNat).toList) = true := by rw [show ((i : Int) + 3).toNat = i + 3 by omega, he]; exact beq_self_eq_true _
            have HV : Hid (nextL s.data.toList i = (R, 3)) := Lib.hid (by
              rw [HNEXT.out, if_neg HR.out, HM2.out, if_pos]
              have e1 : putL R = P.data.toList := by rw [← hP]
              rw [e1, he, Lib.extract_data]
              congr 1
              omega)
            clear he hP
            go_wp2_with fail
            have q1 : IntKind.i64.wrap ((i : Int) + 3) = (i : Int) + 3 := by rw [IntKind.wrap_i64]; omega
            have q2 : (0 : Int) ≤ (i : Int) := by omega
            have q3 : (0 : Int) ≤ (i : Int) + 3 := by omega
            have q4 : (i : Int) ≤ (i : Int) + 3 := by omega
            have q5 : (i : Int) + 3 ≤ (s.size : Int) := by omega
            go_region_held3 (fun _ => True) (first | go_keep | exact trivial) (first | (go_at_call 42; refine (PUT.out _).mono ?_; rintro e w2 ⟨rfl, hB2⟩))
            go_wp2_with fail
            go_ret2
            exact ⟨by rw [HV.out]; rfl, (Below.refl _ _).drew.trans hB2⟩
          · have hne1 : (P.toList == (s.extract i ((i : Int) + 3).toNat).toList) = false := by
              rw [show ((i : Int) + 3).toNat = i + 3 by omega, beq_eq_false_iff_ne, Lib.toList_data, Lib.toList_data]
              intro e; apply he
              exact ByteArray.ext (Array.ext' e)
            have HV : Hid (nextL s.data.toList i = (0, 0)) := Lib.hid (by
              rw [HNEXT.out, if_neg HR.out, HM2.out, if_neg]
              intro e1
              apply he
              apply ByteArray.ext
              apply Array.ext'
              rw [Lib.extract_data, show i + 3 - i = 3 by omega, ← e1, ← hP])
            clear he hP
            go_wp2_with fail
            have q1 : IntKind.i64.wrap ((i : Int) + 3) = (i : Int) + 3 := by rw [IntKind.wrap_i64]; omega
            have q2 : (0 : Int) ≤ (i : Int) := by omega
            have q3 : (0 : Int) ≤ (i : Int) + 3 := by omega
            have q4 : (i : Int) ≤ (i : Int) + 3 := by omega
            have q5 : (i : Int) + 3 ≤ (s.size : Int) := by omega
            go_region_held3 (fun _ => True) (first | go_keep | exact trivial) (first | (go_at_call 42; refine (PUT.out _).mono ?_; rintro e w2 ⟨rfl, hB2⟩))
            go_wp2_with fail
            go_ret2
            exact ⟨by rw [HV.out]; rfl, (Below.refl _ _).drew.trans hB2⟩
  · by_cases hroom : s.size < i + 2
    · have HV : Hid (nextL s.data.toList i = (0, 0)) := Lib.hid (by rw [HNEXT.out, if_pos hroom])
      go_wp2_with fail
      go_ret2
      exact ⟨by rw [HV.out]; rfl, Below.refl _ _⟩
    · have HR : Hid (¬ s.size < i + 2) := Lib.hid hroom
      have hroom2 : i + 2 ≤ s.size := by omega
      clear hroom
      obtain ⟨wo, rfl⟩ : ∃ wo : World, wo = w := ⟨_, rfl⟩
      go_wp2_with fail
      go_loopw [8, 9] (fun r k wr => ∃ (j R : Nat), j + 1 ≤ 2 ∧ k = .int .i64 ((j : Int) + 1) ∧ r = .int .i64 (R : Int) ∧ Hid (moreR s.data.toList i j = R) ∧ wr = wo) (fun _ k _ => 2 - (intOf k).toNat)
      case atStart => exact ⟨0, x - 192, by omega, by go_num, by go_num, HM0, rfl⟩
      case round =>
        obtain ⟨j, R, hj, rfl, rfl, HM, rfl⟩ := hrel
        have hRl : R < 67108864 := by
          have h1 := moreR_lt s.data.toList i j
          rw [HM.out] at h1
          have h2 : 64 ^ j ≤ 64 ^ 3 := Nat.pow_le_pow_right (by omega) (by omega)
          have h3 : 64 ^ 3 = 262144 := by decide
          omega
        by_cases hlt : j + 1 < 2
        · have hin : i + (j + 1) < s.size := by omega
          have hbb : byteAt s.data.toList (i + 1 + j) = s[i + (j + 1)].toNat := by
            unfold byteAt
            rw [List.getD_eq_getElem?_getD, show i + 1 + j = i + (j + 1) by omega, List.getElem?_eq_getElem (by simpa using hin)]
            rfl
          have hy256 : s[i + (j + 1)].toNat < 256 := UInt8.toNat_lt _
          generalize hy : s[i + (j + 1)].toNat = y at hbb hy256
          have HST : Hid (moreR s.data.toList i (j + 1) = R * 64 + y % 64) := Lib.hid (by show moreR s.data.toList i j * 64 + _ = _; rw [HM.out, hbb])
          clear hbb
          go_wp2_with fail
          go_roundw
          case rel => exact ⟨j + 1, R * 64 + y % 64, by omega, by go_num, by go_num, HST, trivial⟩
          case measure => simp [intOf]; omega
        · have hj' : j = 2 - 1 := by omega
          have HM2 : Hid (moreR s.data.toList i (2 - 1) = R) := Lib.hid (by rw [← hj', HM.out])
          clear hj'
          have hput : ∀ w, Calls Tryd.prog 42 #[.int .i64 (R : Int)] w fun e w' => e = .returned (.string ⟨(putL R).toArray⟩) ∧ Below w.heap.size w w' := fun w => put_any R w (by omega)
          generalize hP : (⟨(putL R).toArray⟩ : ByteArray) = P at hput
          have PUT := Lib.hid hput
          clear hput
          by_cases he : P = s.extract i (i + 2)
          · have heq : (P.toList == (s.extract i ((i : Int) + 2).toNat).toList) = true := by rw [show ((i : Int) + 2).toNat = i + 2 by omega, he]; exact beq_self_eq_true _
            have HV : Hid (nextL s.data.toList i = (R, 2)) := Lib.hid (by
              rw [HNEXT.out, if_neg HR.out, HM2.out, if_pos]
              have e1 : putL R = P.data.toList := by rw [← hP]
              rw [e1, he, Lib.extract_data]
              congr 1
              omega)
            clear he hP
            go_wp2_with fail
            have q1 : IntKind.i64.wrap ((i : Int) + 2) = (i : Int) + 2 := by rw [IntKind.wrap_i64]; omega
            have q2 : (0 : Int) ≤ (i : Int) := by omega
            have q3 : (0 : Int) ≤ (i : Int) + 2 := by omega
            have q4 : (i : Int) ≤ (i : Int) + 2 := by omega
            have q5 : (i : Int) + 2 ≤ (s.size : Int) := by omega
            go_region_held3 (fun _ => True) (first | go_keep | exact trivial) (first | (go_at_call 42; refine (PUT.out _).mono ?_; rintro e w2 ⟨rfl, hB2⟩))
            go_wp2_with fail
            go_ret2
            exact ⟨by rw [HV.out]; rfl, (Below.refl _ _).drew.trans hB2⟩
          · have hne1 : (P.toList == (s.extract i ((i : Int) + 2).toNat).toList) = false := by
              rw [show ((i : Int) + 2).toNat = i + 2 by omega, beq_eq_false_iff_ne, Lib.toList_data, Lib.toList_data]
              intro e; apply he
              exact ByteArray.ext (Array.ext' e)
            have HV : Hid (nextL s.data.toList i = (0, 0)) := Lib.hid (by
              rw [HNEXT.out, if_neg HR.out, HM2.out, if_neg]
              intro e1
              apply he
              apply ByteArray.ext
              apply Array.ext'
              rw [Lib.extract_data, show i + 2 - i = 2 by omega, ← e1, ← hP])
            clear he hP
            go_wp2_with fail
            have q1 : IntKind.i64.wrap ((i : Int) + 2) = (i : Int) + 2 := by rw [IntKind.wrap_i64]; omega
            have q2 : (0 : Int) ≤ (i : Int) := by omega
            have q3 : (0 : Int) ≤ (i : Int) + 2 := by omega
            have q4 : (i : Int) ≤ (i : Int) + 2 := by omega
            have q5 : (i : Int) + 2 ≤ (s.size : Int) := by omega
            go_region_held3 (fun _ => True) (first | go_keep | exact trivial) (first | (go_at_call 42; refine (PUT.out _).mono ?_; rintro e w2 ⟨rfl, hB2⟩))
            go_wp2_with fail
            go_ret2
            exact ⟨by rw [HV.out]; rfl, (Below.refl _ _).drew.trans hB2⟩
  · by_cases hroom : s.size < i + 1
    · exfalso; omega
    · have HR : Hid (¬ s.size < i + 1) := Lib.hid hroom
      have hroom2 : i + 1 ≤ s.size := by omega
      clear hroom
      obtain ⟨wo, rfl⟩ : ∃ wo : World, wo = w := ⟨_, rfl⟩
      go_wp2_with fail
      go_loopw [8, 9] (fun r k wr => ∃ (j R : Nat), j + 1 ≤ 1 ∧ k = .int .i64 ((j : Int) + 1) ∧ r = .int .i64 (R : Int) ∧ Hid (moreR s.data.toList i j = R) ∧ wr = wo) (fun _ k _ => 1 - (intOf k).toNat)
      case atStart => exact ⟨0, R0, by omega, by go_num, by go_num, HM0, rfl⟩
      case round =>
        obtain ⟨j, R, hj, rfl, rfl, HM, rfl⟩ := hrel
        have hRl : R < 67108864 := by
          have h1 := moreR_lt s.data.toList i j
          rw [HM.out] at h1
          have h2 : 64 ^ j ≤ 64 ^ 3 := Nat.pow_le_pow_right (by omega) (by omega)
          have h3 : 64 ^ 3 = 262144 := by decide
          omega
        by_cases hlt : j + 1 < 1
        · exfalso; omega
        · have hj' : j = 1 - 1 := by omega
          have HM2 : Hid (moreR s.data.toList i (1 - 1) = R) := Lib.hid (by rw [← hj', HM.out])
          clear hj'
          have hput : ∀ w, Calls Tryd.prog 42 #[.int .i64 (R : Int)] w fun e w' => e = .returned (.string ⟨(putL R).toArray⟩) ∧ Below w.heap.size w w' := fun w => put_any R w (by omega)
          generalize hP : (⟨(putL R).toArray⟩ : ByteArray) = P at hput
          have PUT := Lib.hid hput
          clear hput
          by_cases he : P = s.extract i (i + 1)
          · have heq : (P.toList == (s.extract i (i + 1)).toList) = true := by rw [he]; exact beq_self_eq_true _
            have HV : Hid (nextL s.data.toList i = (R, 1)) := Lib.hid (by
              rw [HNEXT.out, if_neg HR.out, HM2.out, if_pos]
              have e1 : putL R = P.data.toList := by rw [← hP]
              rw [e1, he, Lib.extract_data]
              congr 1
              omega)
            clear he hP
            go_wp2_with fail
            have q1 : IntKind.i64.wrap ((i : Int) + 1) = (i : Int) + 1 := by rw [IntKind.wrap_i64]; omega
            have q2 : (0 : Int) ≤ (i : Int) := by omega
            have q3 : (0 : Int) ≤ (i : Int) + 1 := by omega
            have q4 : (i : Int) ≤ (i : Int) + 1 := by omega
            have q5 : (i : Int) + 1 ≤ (s.size : Int) := by omega
            go_region_held3 (fun _ => True) (first | go_keep | exact trivial) (first | (go_at_call 42; refine (PUT.out _).mono ?_; rintro e w2 ⟨rfl, hB2⟩))
            go_wp2_with fail
            go_ret2
            exact ⟨by rw [HV.out]; rfl, (Below.refl _ _).drew.trans hB2⟩
          · have hne1 : (P.toList == (s.extract i (i + 1)).toList) = false := by
              rw [beq_eq_false_iff_ne, Lib.toList_data, Lib.toList_data]
              intro e; apply he
              exact ByteArray.ext (Array.ext' e)
            have HV : Hid (nextL s.data.toList i = (0, 0)) := Lib.hid (by
              rw [HNEXT.out, if_neg HR.out, HM2.out, if_neg]
              intro e1
              apply he
              apply ByteArray.ext
              apply Array.ext'
              rw [Lib.extract_data, show i + 1 - i = 1 by omega, ← e1, ← hP])
            clear he hP
            go_wp2_with fail
            have q1 : IntKind.i64.wrap ((i : Int) + 1) = (i : Int) + 1 := by rw [IntKind.wrap_i64]; omega
            have q2 : (0 : Int) ≤ (i : Int) := by omega
            have q3 : (0 : Int) ≤ (i : Int) + 1 := by omega
            have q4 : (i : Int) ≤ (i : Int) + 1 := by omega
            have q5 : (i : Int) + 1 ≤ (s.size : Int) := by omega
            go_region_held3 (fun _ => True) (first | go_keep | exact trivial) (first | (go_at_call 42; refine (PUT.out _).mono ?_; rintro e w2 ⟨rfl, hB2⟩))
            go_wp2_with fail
            go_ret2
            exact ⟨by rw [HV.out]; rfl, (Below.refl _ _).drew.trans hB2⟩
end Go.Proofs.YtdgdflbhjbgmdaaDoor
