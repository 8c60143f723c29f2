/-
  Names, read: the walk of spec's l02Text.
-/
import Derived.Test.YtdgdflbhjbgmdaaDoorGnP
import Derived.Deep.QuietTactic
import Derived.BigQuiet
namespace Go.Proofs.YtdgdflbhjbgmdaaDoor
set_option linter.unusedVariables false
open Go.RowKit

set_option maxRecDepth 100000 in
set_option maxHeartbeats 2000000 in
theorem specText_any (s : ByteArray) (w : World) (hs : s.size ≤ 67108864) :
    Calls Tryd.prog 37 #[.string s] w fun e w' => e = .returned (.string ⟨(textS s.data.toList).toArray⟩) ∧ Below w.heap.size w w' := by
  obtain ⟨T, hT⟩ : ∃ T, textS s.data.toList = T := ⟨_, rfl⟩
  rw [hT]
  have HT := Lib.hid hT
  clear hT
  go_enter Tryd.func37, Tryd.ntmps37
  go_wp2
  go_loopw [3, 4] (fun o i wr => ∃ (k n : Nat) (O : ByteArray), k ≤ s.size + 1 ∧ s.size ≤ k + n ∧ i = .int .i64 (k : Int) ∧ o = .string O ∧ Hid (O.data.toList ++ textAt s.data.toList n k = T) ∧ O.size ≤ 4 * k ∧ Below w.heap.size w wr) (fun _ i _ => s.size + 1 - (intOf i).toNat)
  case atStart => exact ⟨0, s.size, ⟨#[]⟩, by omega, by omega, rfl, rfl, Lib.hid (by rw [← HT.out]; unfold textS; simp), by decide, Below.refl _ _⟩
  case round =>
    obtain ⟨k, n, O, hk, hn, rfl, rfl, HP, hsize, hB⟩ := hrel
    have hlen : s.data.toList.length = s.size := by simp
    by_cases hlt : k + 1 < s.size
    · obtain ⟨n, rfl⟩ : ∃ m, n = m + 1 := ⟨n - 1, by omega⟩
      have hp := HP.out
      rw [textAt, if_pos (by omega)] at hp
      have b0 : byteAt s.data.toList k = s[k].toNat := by
        unfold byteAt
        rw [List.getD_eq_getElem?_getD, List.getElem?_eq_getElem (by omega)]
        rfl
      have b1 : byteAt s.data.toList (k + 1) = s[k + 1].toNat := by
        unfold byteAt
        rw [List.getD_eq_getElem?_getD, List.getElem?_eq_getElem (by omega)]
        rfl
      rw [b0, b1] at hp
      have x0 : s[k].toNat < 256 := UInt8.toNat_lt _
      have x1 : s[k + 1].toNat < 256 := UInt8.toNat_lt _
      generalize hx : s[k].toNat = x at hp x0
      generalize hy : s[k + 1].toNat = y at hp x1
      have hr : ((x * 256 + y : Nat) : Int) = (x : Int) * 256 + (y : Int) := by omega
      by_cases hhi : 55296 ≤ x * 256 + y ∧ x * 256 + y ≤ 56319
      · by_cases hmore : k + 3 < s.size
        · rw [if_pos ⟨hhi.1, hhi.2, by omega⟩] at hp
          have b2 : byteAt s.data.toList (k + 2) = s[k + 2].toNat := by
            unfold byteAt
            rw [List.getD_eq_getElem?_getD, List.getElem?_eq_getElem (by omega)]
            rfl
          have b3 : byteAt s.data.toList (k + 3) = s[k + 3].toNat := by
            unfold byteAt
            rw [List.getD_eq_getElem?_getD, List.getElem?_eq_getElem (by omega)]
            rfl
          rw [b2, b3] at hp
          have x2 : s[k + 2].toNat < 256 := UInt8.toNat_lt _
          have x3 : s[k + 3].toNat < 256 := UInt8.toNat_lt _
          generalize hz : s[k + 2].toNat = z at hp x2
          generalize hv : s[k + 3].toNat = v at hp x3
          obtain ⟨R, hR⟩ : ∃ R, R = 65536 + (x * 256 + y - 55296) * 1024 + (z * 256 + v) - 56320 := ⟨_, rfl⟩
          have hRi : (65536 + ((x : Int) * 256 + (y : Int) - 55296) * 1024 + ((z : Int) * 256 + (v : Int)) - 56320) = (R : Int) := by omega
          rw [← hR] at hp
          have PU := Lib.hid (fun w => put_any R w (by omega))
          have hpl := put_len R
          have hVs : (⟨(putL R).toArray⟩ : ByteArray).size ≤ 4 := by show (putL R).toArray.size ≤ 4; simpa using hpl
          have hVl : (⟨(putL R).toArray⟩ : ByteArray).data.toList = putL R := rfl
          rw [← hVl] at hp
          have HP2 := Lib.hid hp
          generalize (⟨(putL R).toArray⟩ : ByteArray) = V at PU hVs HP2
          clear hp hVl hpl b0 b1 b2 b3 hR
          obtain ⟨h1, h2⟩ := hhi
          have h1' : (55296 : Int) ≤ (x : Int) * 256 + (y : Int) := by omega
          have h2' : (x : Int) * 256 + (y : Int) ≤ 56319 := by omega
          have i1 : (0 : Int) ≤ (k : Int) := by omega
          have i2 : (k : Int) < (s.size : Int) := by omega
          have i3 : (k : Int) + 1 < (s.size : Int) := by omega
          have i4 : (0 : Int) ≤ (k : Int) + 1 := by omega
          have i5 : (k : Int) + 2 < (s.size : Int) := by omega
          have i6 : (0 : Int) ≤ (k : Int) + 2 := by omega
          have i7 : (k : Int) + 3 < (s.size : Int) := by omega
          have i8 : (0 : Int) ≤ (k : Int) + 3 := by omega
          go_wp2_with fail
          go_quiet (fail)
          go_wp2_with (first | (go_at_call 27; refine (in_yes _ _ _ _ h1' h2').mono ?_; rintro e w' ⟨rfl, rfl⟩))
          go_wp2_with fail
          go_quiet (fail)
          go_wp2_with (first | (go_at_call 42; refine (PU.out _).mono ?_; rintro e w5 ⟨rfl, hB5⟩))
          have hB6 : Below w.heap.size w w5 := (below_drewNv hB _).trans (hB5.mono hB.size)
          go_roundw
          case rel =>
            refine ⟨k + 4, n, O ++ V, by omega, by omega, by go_num, rfl, Lib.hid ?_, by rw [ByteArray.size_append]; omega, hB6⟩
            rw [← HP2.out]
            simp only [ByteArray.data_append, Array.toList_append, List.append_assoc]
          case measure => simp [intOf]; omega
        · rw [if_neg (by omega)] at hp
          obtain ⟨R, hR⟩ : ∃ R, R = x * 256 + y := ⟨_, rfl⟩
          have hRi : (x : Int) * 256 + (y : Int) = (R : Int) := by omega
          rw [← hR] at hp
          have PU := Lib.hid (fun w => put_any R w (by omega))
          have hpl := put_len R
          have hVs : (⟨(putL R).toArray⟩ : ByteArray).size ≤ 4 := by show (putL R).toArray.size ≤ 4; simpa using hpl
          have hVl : (⟨(putL R).toArray⟩ : ByteArray).data.toList = putL R := rfl
          rw [← hVl] at hp
          have HP2 := Lib.hid hp
          generalize (⟨(putL R).toArray⟩ : ByteArray) = V at PU hVs HP2
          clear hp hVl hpl b0 b1
          obtain ⟨h1, h2⟩ := hhi
          have h1' : (55296 : Int) ≤ (R : Int) := by omega
          have h2' : (R : Int) ≤ 56319 := by omega
          have i9 : decide ((k : Int) + 3 < (s.size : Int)) = false := by simp; omega
          clear hR hr hmore
          have i1 : (0 : Int) ≤ (k : Int) := by omega
          have i2 : (k : Int) < (s.size : Int) := by omega
          have i3 : (k : Int) + 1 < (s.size : Int) := by omega
          have i4 : (0 : Int) ≤ (k : Int) + 1 := by omega
          go_wp2_with fail
          go_quiet (fail)
          go_wp2_with (first | (go_at_call 27; refine (in_yes _ _ _ _ h1' h2').mono ?_; rintro e w' ⟨rfl, rfl⟩) | (go_at_call 42; refine (PU.out _).mono ?_; rintro e w5 ⟨rfl, hB5⟩))
          have hB6 : Below w.heap.size w w5 := (below_drewNv hB _).trans (hB5.mono hB.size)
          go_roundw
          case rel =>
            refine ⟨k + 2, n, O ++ V, by omega, by omega, by go_num, rfl, Lib.hid ?_, by rw [ByteArray.size_append]; omega, hB6⟩
            rw [← HP2.out]
            simp only [ByteArray.data_append, Array.toList_append, List.append_assoc]
          case measure => simp [intOf]; omega
      · rw [if_neg (by omega)] at hp
        obtain ⟨R, hR⟩ : ∃ R, R = x * 256 + y := ⟨_, rfl⟩
        have hRi : (x : Int) * 256 + (y : Int) = (R : Int) := by omega
        rw [← hR] at hp
        have PU := Lib.hid (fun w => put_any R w (by omega))
        have hpl := put_len R
        have hVs : (⟨(putL R).toArray⟩ : ByteArray).size ≤ 4 := by show (putL R).toArray.size ≤ 4; simpa using hpl
        have hVl : (⟨(putL R).toArray⟩ : ByteArray).data.toList = putL R := rfl
        rw [← hVl] at hp
        have HP2 := Lib.hid hp
        generalize (⟨(putL R).toArray⟩ : ByteArray) = V at PU hVs HP2
        clear hp hVl hpl b0 b1
        have hno : (R : Int) < 55296 ∨ 56319 < (R : Int) := by omega
        clear hR hr hhi
        have HNO := Lib.hid hno
        clear hno
        have i1 : (0 : Int) ≤ (k : Int) := by omega
        have i2 : (k : Int) < (s.size : Int) := by omega
        have i3 : (k : Int) + 1 < (s.size : Int) := by omega
        have i4 : (0 : Int) ≤ (k : Int) + 1 := by omega
        go_wp2_with fail
        go_quiet (fail)
        go_wp2_with (first | (go_at_call 27; refine (in_no _ _ _ _ HNO.out).mono ?_; rintro e w' ⟨rfl, rfl⟩) | (go_at_call 42; refine (PU.out _).mono ?_; rintro e w5 ⟨rfl, hB5⟩))
        have hB6 : Below w.heap.size w w5 := (below_drewNv hB _).trans (hB5.mono hB.size)
        go_roundw
        case rel =>
          refine ⟨k + 2, n, O ++ V, by omega, by omega, by go_num, rfl, Lib.hid ?_, by rw [ByteArray.size_append]; omega, hB6⟩
          rw [← HP2.out]
          simp only [ByteArray.data_append, Array.toList_append, List.append_assoc]
        case measure => simp [intOf]; omega
    · have HE := HP.out
      rw [textAt_end _ _ _ (by omega), List.append_nil] at HE
      have HO := Lib.hid HE
      have i1 : decide ((k : Int) + 1 < (s.size : Int)) = false := by simp; omega
      clear HE hlt
      go_wp2_with fail
      go_ret
      exact ⟨by rw [← HO.out]; rfl, hB⟩
end Go.Proofs.YtdgdflbhjbgmdaaDoor
