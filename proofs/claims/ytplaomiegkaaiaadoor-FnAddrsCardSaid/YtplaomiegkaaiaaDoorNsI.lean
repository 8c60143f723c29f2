/-
  Addresses: the walks of impl's inSpec, nameAndSpec.
-/
import Derived.Test.YtplaomiegkaaiaaDoorAdL
import Derived.Test.YtplaomiegkaaiaaDoorUqI
import Derived.Test.YtplaomiegkaaiaaDoorVisI
import Derived.Test.YtplaomiegkaaiaaDoorShelf
import Derived.Deep.RegionHeld3
namespace Go.Proofs.YtplaomiegkaaiaaDoor
set_option linter.unusedVariables false
open Go.RowKit

set_option maxHeartbeats 400000 in
theorem inSpec_any (b : UInt8) (w : World) : Calls Tryd.prog 40 #[.int .u8 (b.toNat : Int)] w fun e w' => e = .returned (.bool (specB b)) ∧ w = w' := by
  have VI := Lib.hid (fun w => vis_any b w)
  unfold specB
  cases hn : nameB b with
  | false =>
    rw [hn] at VI
    clear hn
    go_enter Tryd.func40, Tryd.ntmps40
    go_wp2_with (go_at_call 62; refine (VI.out _).mono ?_; rintro e w' ⟨rfl, rfl⟩)
    go_ret
    exact ⟨rfl, rfl⟩
  | true =>
    rw [hn] at VI
    clear hn
    by_cases h1 : b = 60
    · have d1 : ((b.toNat : Int) != 60) = false := eq_form (c := 60) h1
      rw [show (b == 60) = true by rw [h1]; rfl]
      clear h1
      go_enter Tryd.func40, Tryd.ntmps40
      go_wp2_with (go_at_call 62; refine (VI.out _).mono ?_; rintro e w' ⟨rfl, rfl⟩)
      go_ret
      exact ⟨rfl, rfl⟩
    · have d1 : ((b.toNat : Int) != 60) = true := ne_form (c := 60) h1
      rw [beq_eq_false_iff_ne.2 h1]
      by_cases h2 : b = 62
      · have d2 : ((b.toNat : Int) != 62) = false := eq_form (c := 62) h2
        rw [show (b == 62) = true by rw [h2]; rfl]
        clear h1 h2
        go_enter Tryd.func40, Tryd.ntmps40
        go_wp2_with (go_at_call 62; refine (VI.out _).mono ?_; rintro e w' ⟨rfl, rfl⟩)
        go_ret
        exact ⟨rfl, rfl⟩
      · have d2 : ((b.toNat : Int) != 62) = true := ne_form (c := 62) h2
        rw [beq_eq_false_iff_ne.2 h2]
        clear h1 h2
        go_enter Tryd.func40, Tryd.ntmps40
        go_wp2_with (go_at_call 62; refine (VI.out _).mono ?_; rintro e w' ⟨rfl, rfl⟩)
        go_ret
        exact ⟨rfl, rfl⟩

theorem last_same (s : ByteArray) (b : UInt8) : Lib.lastIndexByte s (b.toNat : Int) = lastI b s.data.toList := by
  have hat : ∀ j, j < s.size → s.data.toList[j]? = some (s.data[j]!) := fun j hj => by
    rw [List.getElem?_eq_getElem (by simpa using hj), getElem!_pos s.data j hj]
    simp
  rcases Lib.lastIndexByte_spec s (b.toNat : Int) with ⟨h1, h2⟩ | ⟨i, h1, h2, h3, h4⟩
  · rw [h1, lastI_none]
    intro j h
    have hj := (List.getElem?_eq_some_iff.1 h).1
    have hj2 : j < s.size := by simpa using hj
    rw [hat j hj2] at h
    exact h2 j hj2 (by rw [Option.some.inj h])
  · rw [h2, lastI_at b _ i]
    · rw [hat i h1]
      congr 1
      exact UInt8.toNat_inj.1 (by omega)
    · intro j hj h
      have hj1 := (List.getElem?_eq_some_iff.1 h).1
      have hj2 : j < s.size := by simpa using hj1
      rw [hat j hj2] at h
      exact h4 j hj hj2 (by rw [Option.some.inj h])
theorem suffix_one (s : ByteArray) (b : UInt8) (h : 0 < s.size) : Lib.hasSuffix s.data.toList [b] = (s[s.size - 1] == b) := by
  rw [← Lib.hasSuffix_of_drop]
  have hl : s.data.toList.length = s.size := by simp
  rw [List.length_singleton, decide_eq_true (by omega), Bool.true_and, hl, List.drop_eq_getElem_cons (by omega), List.drop_eq_nil_of_le (by omega)]
  show ([s[s.size - 1]] == [b]) = _
  simp

set_option maxRecDepth 100000 in
set_option maxHeartbeats 1000000 in
theorem nameSpec_any (s : ByteArray) (w : World) (hs : s.size ≤ 1048576) (h0 : 0 < s.size) :
    Calls Tryd.prog 39 #[.string s] w fun e w' => e = .returned (.tuple #[.string (mkB (twoOf s.data.toList).1), .string (mkB (twoOf s.data.toList).2)]) ∧ Below w.heap.size w w' := by
  have hlen : s.data.toList.length = s.size := by simp
  have LI := Lib.hid (fun w => Tryd.strings_LastIndexByte s (((60 : UInt8).toNat : Nat) : Int) (by omega) w)
  rw [last_same s 60] at LI
  rw [show (((60 : UInt8).toNat : Nat) : Int) = 60 from rfl] at LI
  have SU := Lib.hid (fun w => Tryd.strings_HasSuffix s ⟨#[62]⟩ w (by omega))
  rw [show (⟨#[62]⟩ : ByteArray).data.toList = [62] from rfl, suffix_one s 62 h0] at SU
  have htw : twoOf s.data.toList = if 0 ≤ lastI 60 s.data.toList ∧ s.data.toList.getD (s.data.toList.length - 1) 0 = 62 then (unqL (s.data.toList.take (lastI 60 s.data.toList).toNat), (s.data.toList.drop ((lastI 60 s.data.toList).toNat + 1)).take (s.data.toList.length - 1 - ((lastI 60 s.data.toList).toNat + 1))) else ([], s.data.toList) := rfl
  have hspec := lastI_spec 60 s.data.toList
  generalize lastI 60 s.data.toList = n at LI htw hspec
  rw [hlen, byte_at s (s.size - 1) (by omega)] at htw
  by_cases hneg : n < 0
  · rw [if_neg (by omega)] at htw
    rw [htw]
    have g1 : decide (n < 0) = true := by simpa using hneg
    clear htw hspec hneg hlen
    go_enter Tryd.func39, Tryd.ntmps39
    go_wp2_with (go_at_call 60; refine (LI.out _).mono ?_; rintro e w' ⟨rfl, rfl⟩)
    go_ret2
    exact ⟨rfl, Below.refl _ _⟩
  · have g1 : decide (n < 0) = false := by simpa using hneg
    by_cases h62 : s[s.size - 1] = 62
    · obtain ⟨i, rfl, hi⟩ : ∃ i : Nat, n = (i : Int) ∧ i + 1 ≤ s.size - 1 := by
        rcases hspec with ⟨h, _⟩ | ⟨i, h, h3, h4, _⟩
        · omega
        · refine ⟨i, h, ?_⟩
          rw [hlen] at h3
          by_cases he : i = s.size - 1
          · exfalso
            subst he
            have := byte_some s (s.size - 1) (by omega)
            rw [h4, h62] at this
            cases this
          · omega
      rw [if_pos ⟨by omega, h62⟩, show ((i : Int)).toNat = i by omega] at htw
      rw [htw]
      rw [beq_iff_eq.2 h62] at SU
      have UQ := Lib.hid (fun w => implUnquote_any (s.extract 0 i) w (by rw [ByteArray.size_extract]; omega))
      rw [Lib.extract_data, List.drop_zero, Nat.sub_zero] at UQ
      generalize unqL (s.data.toList.take i) = nm at UQ ⊢
      have j1 : (0 : Int) ≤ (i : Int) := by omega
      have j2 : (i : Int) ≤ (s.size : Int) := by omega
      have j3 : (0 : Int) ≤ (i : Int) + 1 := by omega
      have j4 : (i : Int) + 1 ≤ (s.size : Int) - 1 := by omega
      have j5 : (s.size : Int) - 1 ≤ (s.size : Int) := by omega
      have j6 : (0 : Int) ≤ (s.size : Int) - 1 := by omega
      have j7 : 1 ≤ s.size := by omega
      have j8 : (1 : Int) ≤ (s.size : Int) := by omega
      have hx : mkB ((s.data.toList.drop (i + 1)).take (s.size - 1 - (i + 1))) = s.extract (i + 1) (s.size - 1) := (mkB_extract s (i + 1) (s.size - 1)).symm
      rw [hx]
      clear htw hspec hneg h62 hi hx hlen
      have k1 : ((i : Int) + 1).toNat = i + 1 := by omega
      have k2 : IntKind.i64.wrap ((i : Int) + 1) = (i : Int) + 1 := by rw [IntKind.wrap_i64]; omega
      have k3 : ((s.size : Int) - 1).toNat = s.size - 1 := by omega
      have k4 : IntKind.i64.wrap ((s.size : Int) - 1) = (s.size : Int) - 1 := by rw [IntKind.wrap_i64]; omega
      go_enter Tryd.func39, Tryd.ntmps39
      go_wp2_with (first | (go_at_call 60; refine (LI.out _).mono ?_; rintro e w' ⟨rfl, hw⟩; rw [hw]; clear hw w') | (go_at_call 61; refine (SU.out _).mono ?_; rintro e w' ⟨rfl, hw⟩; rw [hw]; clear hw w'))
      go_region_held3 (fun _ => True) (first | go_keep | exact trivial) (first | (go_at_call 22; refine (UQ.out _).mono ?_; rintro e w1 ⟨rfl, hB1⟩))
      go_wp2_with fail
      go_ret2
      exact ⟨rfl, (Below.refl _ w).drew.trans hB1⟩
    · rw [if_neg (fun h => h62 h.2)] at htw
      rw [htw]
      rw [beq_eq_false_iff_ne.2 h62] at SU
      clear htw hspec hneg h62 hlen
      go_enter Tryd.func39, Tryd.ntmps39
      go_wp2_with (first | (go_at_call 60; refine (LI.out _).mono ?_; rintro e w' ⟨rfl, rfl⟩) | (go_at_call 61; refine (SU.out _).mono ?_; rintro e w' ⟨rfl, rfl⟩))
      go_ret2
      exact ⟨rfl, Below.refl _ _⟩
end Go.Proofs.YtplaomiegkaaiaaDoor
