/-
  Header fields: the walk of spec's l05Field.
-/
import Derived.Test.YtfgfbdfijpecfaaFlP
import Derived.Test.YtfgfbdfijpecfaaFindS
import Derived.Test.YtfgfbdfijpecfaaIn
import Derived.Deep.RegionHeld3
namespace Go.Proofs.Ytfgfbdfijpecfaa
set_option linter.unusedVariables false
open Go.RowKit

/-- What l05Field tells. -/
def fieldV (t : List UInt8) : Value := match fieldOf t with
  | none => .tuple #[.agg #[.string ⟨#[]⟩, .string ⟨#[]⟩], .bool false]
  | some f => .tuple #[.agg #[.string (mkB f.name), .string (mkB f.body)], .bool true]

theorem wrap64_byte (b : UInt8) : wrap64 (b.toNat : Int) = (b.toNat : Int) := by
  have := b.toNat_lt
  unfold wrap64
  omega
theorem cells2_0 (w : World) (a b : Value) (T : TypeId) : (w.alloc (.cells #[a, b] T)).cell? ⟨w.heap.size, 0, none⟩ = some a := by
  rw [World.cell?, heap_alloc_new]
  rfl
theorem cells2_1 (w : World) (a b : Value) (T : TypeId) : (w.alloc (.cells #[a, b] T)).cell? ⟨w.heap.size, 1, none⟩ = some b := by
  rw [World.cell?, heap_alloc_new]
  rfl

theorem colon_bounds (t : List UInt8) : -1 ≤ Lib.index t [58] ∧ (0 ≤ Lib.index t [58] → Lib.index t [58] + 1 ≤ (t.length : Int)) := by
  refine ⟨?_, fun h => by have := Lib.index_room t [58] h; simpa using this⟩
  rcases Lib.index_spec t [58] with ⟨h, _⟩ | ⟨i, h, _⟩ <;> omega

theorem all_upto {t : List UInt8} {n : Nat} (hn : n ≤ t.length) (h : ∀ j (h : j < n), nameB (t[j]'(by omega)) = true) : (t.take n).all nameB = true := by
  rw [List.all_eq_true]
  intro b hb
  obtain ⟨j, hj, rfl⟩ := List.mem_iff_getElem.1 hb
  rw [List.getElem_take]
  exact h j (by rw [List.length_take] at hj; omega)
theorem not_all {t : List UInt8} {n j : Nat} (hn : n ≤ t.length) (hj : j < n) (h : nameB (t[j]'(by omega)) = false) : (t.take n).all nameB = false := by
  rw [← Bool.not_eq_true, List.all_eq_true]
  intro h2
  have := h2 (t[j]'(by omega)) (List.mem_iff_getElem.2 ⟨j, by rw [List.length_take]; omega, by rw [List.getElem_take]⟩)
  rw [h] at this
  cases this

set_option maxRecDepth 100000 in
set_option maxHeartbeats 1000000 in
theorem specField_any (s : ByteArray) (w : World) (hs : s.size ≤ 1048576) :
    Calls Try.prog 54 #[.string s] w fun e w' => e = .returned (fieldV s.data.toList) ∧ Below w.heap.size w w' := by
  have HF := Lib.hid (fun w => specFind_any s ⟨#[58]⟩ w hs (by decide))
  obtain ⟨V, hV⟩ : ∃ V, fieldV s.data.toList = V := ⟨_, rfl⟩
  rw [hV]
  unfold fieldV fieldOf at hV
  have hcb := colon_bounds s.data.toList
  have hlen : s.data.toList.length = s.size := by simp
  rw [hlen] at hcb
  have HLEN := Lib.hid hlen
  generalize hx : Lib.index s.data.toList [58] = x at HF hV hcb
  obtain ⟨hc1, hc2⟩ := hcb
  clear hx hlen
  by_cases h1 : x < 1
  · rw [if_pos h1] at hV
    have HV := Lib.hid hV
    have g1 : decide (x < 1) = true := by simpa using h1
    clear hV hc2
    go_enter Try.func54, Try.ntmps54
    go_wp2_with (go_at_call 32; refine (HF.out _).mono ?_; rintro e w' ⟨rfl, rfl⟩)
    have q0 := cells2_0 w (.string ⟨#[]⟩) (.string ⟨#[]⟩) 35
    have q1 := cells2_1 w (.string ⟨#[]⟩) (.string ⟨#[]⟩) 35
    refine bodyPost_ret (v := .tuple #[.agg #[.string ⟨#[]⟩, .string ⟨#[]⟩], .bool false]) (by simp [results, Try.results54, go_sem, q0, q1]) rfl ⟨by rw [← HV.out], (Below.refl _ _).alloc (Nat.le_refl _) _⟩
  · rw [if_neg h1] at hV
    have g1 : decide (x < 1) = false := by simpa using h1
    have hc3 := hc2 (by omega)
    obtain ⟨n, rfl⟩ := Int.eq_ofNat_of_zero_le (by omega : 0 ≤ x)
    have HV := Lib.hid hV
    have hat : ∀ k (h : k < s.size), s.data.toList[k]? = some (s[k]'h) := fun k h => by
      rw [List.getElem?_eq_getElem (by simpa using h)]; rfl
    have HAT := Lib.hid hat
    have hn1 : 1 ≤ n := by omega
    have hn2 : n + 1 ≤ s.size := by omega
    clear hV hat hc2 hc3 hc1 h1
    go_enter Try.func54, Try.ntmps54
    go_wp2_with (go_at_call 32; refine (HF.out _).mono ?_; rintro e w' ⟨rfl, rfl⟩)
    go_loop [5] (fun i => ∃ k : Nat, k ≤ n ∧ i = .int .i64 k ∧ Hid (∀ j (h : j < s.size), j < k → nameB (s[j]'h) = true)) (fun i => n - (intOf i).toNat)
    case atStart => exact ⟨0, Nat.zero_le _, rfl, Lib.hid (fun j h hj => by omega)⟩
    case round =>
      obtain ⟨k, hk, rfl, hall⟩ := hrel
      by_cases hlt : k < n
      · have g2 : decide ((k : Int) < (n : Int)) = true := by simp; omega
        have i1 : (0 : Int) ≤ (k : Int) := by omega
        have i2 : (k : Int) < (s.size : Int) := by omega
        have wq : wrap64 ((s[k]'(by omega)).toNat : Int) = ((s[k]'(by omega)).toNat : Int) := wrap64_byte _
        cases hb : nameB (s[k]'(by omega)) with
        | true =>
          have hb2 : (33 : Int) ≤ ((s[k]'(by omega)).toNat : Int) ∧ ((s[k]'(by omega)).toNat : Int) ≤ 126 := by
            unfold nameB at hb
            simp at hb
            omega
          have HB2 := Lib.hid hb2
          have HN : Hid (∀ j (h : j < s.size), j < k + 1 → nameB (s[j]'h) = true) := Lib.hid (fun j h hj => by
            rcases Nat.lt_or_ge j k with h1 | h1
            · exact hall.out j h h1
            · obtain rfl : j = k := by omega
              exact hb)
          clear hb hb2 hall
          go_wp2_with (go_at_call 56; refine (in_yes _ _ _ _ HB2.out.1 HB2.out.2).mono ?_; rintro e w' ⟨rfl, rfl⟩)
          go_round
          case rel => exact ⟨k + 1, by omega, by go_num, HN⟩
          case measure => simp [intOf]; omega
        | false =>
          have hb2 : ((s[k]'(by omega)).toNat : Int) < 33 ∨ (126 : Int) < ((s[k]'(by omega)).toNat : Int) := by
            unfold nameB at hb
            simp at hb
            omega
          have HB2 := Lib.hid hb2
          have HV2 : Hid (.tuple #[.agg #[.string ⟨#[]⟩, .string ⟨#[]⟩], .bool false] = V) := Lib.hid (by
            rw [← HV.out]
            have := not_all (t := s.data.toList) (n := n) (j := k) (by rw [HLEN.out]; omega) hlt (by
              have e := HAT.out k (by omega)
              rw [List.getElem?_eq_getElem (by rw [HLEN.out]; omega)] at e
              rw [Option.some.inj e]
              exact hb)
            rw [show ((n : Int)).toNat = n by omega, this]
            rfl)
          clear hb hb2 hall
          go_wp2_with (go_at_call 56; refine (in_no _ _ _ _ HB2.out).mono ?_; rintro e w' ⟨rfl, rfl⟩)
          have q0 := cells2_0 w (.string ⟨#[]⟩) (.string ⟨#[]⟩) 35
          have q1 := cells2_1 w (.string ⟨#[]⟩) (.string ⟨#[]⟩) 35
          refine bodyPost_ret (v := .tuple #[.agg #[.string ⟨#[]⟩, .string ⟨#[]⟩], .bool false]) (by simp [results, Try.results54, go_sem, q0, q1]) rfl ⟨by rw [← HV2.out], (Below.refl _ _).alloc (Nat.le_refl _) _⟩
      · obtain rfl : k = n := by omega
        have g2 : decide ((k : Int) < (k : Int)) = false := by simp
        have i1 : (0 : Int) ≤ (k : Int) := by omega
        have i2 : (k : Int) ≤ (s.size : Int) := by omega
        have i3 : (0 : Int) ≤ (k : Int) + 1 := by omega
        have i4 : (k : Int) + 1 ≤ (s.size : Int) := by omega
        have i5 : ((k : Int) + 1).toNat = k + 1 := by omega
        have i6 : IntKind.i64.wrap ((k : Int) + 1) = (k : Int) + 1 := by rw [IntKind.wrap_i64]; omega
        have HN : Hid (.tuple #[.agg #[.string (s.extract 0 k), .string ⟨(Lib.trimS (s.extract (k + 1) s.size).data.toList [32, 9]).toArray⟩], .bool true] = V) := Lib.hid (by
          rw [← HV.out]
          have := all_upto (t := s.data.toList) (n := k) (by rw [HLEN.out]; omega) (fun j hj => by
            have e := HAT.out j (by omega)
            rw [List.getElem?_eq_getElem (by rw [HLEN.out]; omega)] at e
            rw [Option.some.inj e]
            exact hall.out j (by omega) hj)
          rw [show ((k : Int)).toNat = k by omega, this]
          rw [if_pos rfl, mkB_extract, mkB_extract, mkB_list, List.take_of_length_le (l := s.data.toList.drop (k + 1)) (by simp)]
          simp [mkB])
        have TR := Lib.hid (fun w => specTrim_any (s.extract (k + 1) s.size) w (by rw [ByteArray.size_extract]; omega))
        generalize (⟨(Lib.trimS (s.extract (k + 1) s.size).data.toList [32, 9]).toArray⟩ : ByteArray) = B at HN TR
        obtain ⟨A, hA⟩ : ∃ A, s.extract 0 k = A := ⟨_, rfl⟩
        rw [hA] at HN
        clear hall
        go_wp2_with fail
        go_region_held3 (fun w' => True) (first | go_keep | exact trivial) (first | (go_at_call 61; refine (TR.out _).mono ?_; rintro e w1 ⟨rfl, rfl⟩))
        go_wp2_with fail
        have q0 : ((w.alloc (.cells #[.string A, .string B] 35)).drew).cell? ⟨w.heap.size, 0, none⟩ = some (.string A) := cells2_0 w _ _ _
        have q1 : ((w.alloc (.cells #[.string A, .string B] 35)).drew).cell? ⟨w.heap.size, 1, none⟩ = some (.string B) := cells2_1 w _ _ _
        refine bodyPost_ret (v := .tuple #[.agg #[.string A, .string B], .bool true]) (by simp [results, Try.results54, go_sem, q0, q1]) rfl ⟨by rw [← HN.out], ((Below.refl _ _).alloc (Nat.le_refl _) _).drew⟩
end Go.Proofs.Ytfgfbdfijpecfaa
