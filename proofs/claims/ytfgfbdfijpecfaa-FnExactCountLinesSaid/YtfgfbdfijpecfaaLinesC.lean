/-
  The walk of spec.CountLines, and of the exact law on CountLines.
-/
import Derived.Test.YtfgfbdfijpecfaaLinesB
namespace Go.Proofs.Ytfgfbdfijpecfaa
set_option linter.unusedVariables false
open Go.RowKit

def specN (s : ByteArray) : Int := if (crF s s.size).2 < s.size then ((crF s s.size).1 : Int) + 1 else (crF s s.size).1

theorem crF_le (s : ByteArray) : ∀ k, (crF s k).1 ≤ k ∧ (crF s k).2 ≤ k + 1 := by
  intro k
  induction k with
  | zero => simp [crF]
  | succ k ih =>
    cases h : occC s k
    · rw [crF_no h]; omega
    · rw [crF_yes h]; simp; omega

/-- The two counts agree. -/
theorem lines_agree (s : ByteArray) (full : List ByteArray) (hp : Pcs crlf s full) : lineN full = specN s := by
  obtain ⟨last, h1, h2, h3⟩ := pcs_lines s s full hp 0 0 (Nat.zero_le _) (by apply ByteArray.ext; apply Array.ext'; rw [Lib.extract_data, List.drop_zero, List.take_of_length_le (by simp)]) rfl
  have hpos := hp.pos
  have hl : lastOf full = last := by unfold lastOf; rw [h1]; rfl
  unfold lineN specN
  rw [hl, h3]
  simp only [Nat.zero_add]
  by_cases he : last.data.toList = []
  · have hz : last.size = 0 := by
      have : last.data.toList.length = 0 := by rw [he]; rfl
      simpa using this
    rw [if_pos he, if_neg (by omega)]
    omega
  · have hz : 0 < last.size := by
      rcases Nat.eq_zero_or_pos last.size with h | h
      · exfalso; apply he; apply List.eq_nil_of_length_eq_zero; simpa using h
      · exact h
    rw [if_neg he, if_pos (by omega)]
    omega

set_option maxHeartbeats 400000 in
theorem specLines_any (s : ByteArray) (w : World) (hs : s.size ≤ 1048576) :
    Calls Try.prog 26 #[.string s] w fun e w' => e = .returned (.int .i64 (specN s)) ∧ w' = w := by
  go_enter Try.func26, Try.ntmps26
  go_wp2
  go_loop [3, 4, 5] (fun n p i => ∃ k : Nat, k ≤ s.size ∧ i = .int .i64 k ∧ n = .int .i64 (crF s k).1 ∧ p = .int .i64 (crF s k).2) (fun _ _ i => s.size - (intOf i).toNat)
  case atStart => exact ⟨0, Nat.zero_le _, rfl, rfl, rfl⟩
  case round =>
    obtain ⟨k, hk, rfl, rfl, rfl⟩ := hrel
    obtain ⟨hle1, hle2⟩ := crF_le s k
    by_cases hlt : k + 1 < s.size
    · have hk1 : k < s.size := by omega
      have hiff := occC_iff s k
      have e0 : s.data.toList[k]? = some s[k] := by
        rw [List.getElem?_eq_getElem (by simpa using hk1)]; rfl
      have e1 : s.data.toList[k + 1]? = some s[k + 1] := by
        rw [List.getElem?_eq_getElem (by simpa using hlt)]; rfl
      rw [e0, e1] at hiff
      clear e0 e1
      have hb0 : s[k].toNat < 256 := s[k].toNat_lt
      have hb1 : s[k + 1].toNat < 256 := s[k + 1].toNat_lt
      generalize ha : s[k] = a at hiff hb0
      generalize hb : s[k + 1] = b at hiff hb1
      have HIFF := Lib.hid hiff
      clear hiff
      by_cases h1 : a = 13
      · subst h1
        have t1 : ((s[k].toNat : Int) == 13) = true := by rw [ha]; rfl
        by_cases h2 : b = 10
        · subst h2
          have t2 : ((s[k + 1].toNat : Int) == 10) = true := by rw [hb]; rfl
          have HST := Lib.hid (crF_yes (HIFF.out.2 ⟨rfl, rfl⟩))
          have HA := Lib.hid ha
          have HB := Lib.hid hb
          clear ha hb
          go_wp2
          go_round
          case rel => exact ⟨k + 1, by omega, by go_num, by rw [HST.out]; go_num, by rw [HST.out]; go_num⟩
          case measure => simp [intOf]; omega
        · have t2 : ((s[k + 1].toNat : Int) == 10) = false := by
            rw [hb, beq_eq_false_iff_ne]; intro e; apply h2; apply UInt8.toNat_inj.1; show b.toNat = 10; omega
          have HST := Lib.hid (crF_no (by rw [← Bool.not_eq_true]; intro e; have := (HIFF.out.1 e).2; injection this with this; exact h2 this))
          have HA := Lib.hid ha
          have HB := Lib.hid hb
          clear ha hb h2
          go_wp2
          go_round
          case rel => exact ⟨k + 1, by omega, by go_num, by rw [HST.out], by rw [HST.out]⟩
          case measure => simp [intOf]; omega
      · have t1 : ((s[k].toNat : Int) == 13) = false := by
          rw [ha, beq_eq_false_iff_ne]; intro e; apply h1; apply UInt8.toNat_inj.1; show a.toNat = 13; omega
        have HST := Lib.hid (crF_no (by rw [← Bool.not_eq_true]; intro e; have := (HIFF.out.1 e).1; injection this with this; exact h1 this))
        have HA := Lib.hid ha
        have HB := Lib.hid hb
        clear ha hb h1
        go_wp2
        go_round
        case rel => exact ⟨k + 1, by omega, by go_num, by rw [HST.out], by rw [HST.out]⟩
        case measure => simp [intOf]; omega
    · have hend : crF s s.size = crF s k := by
        have h := crF_run (s := s) k (s.size - k) (fun j g1 g2 => occC_late (by omega))
        rw [show k + (s.size - k) = s.size by omega] at h
        exact h
      by_cases hl : (crF s k).2 < s.size
      · have HV : Hid (specN s = (crF s k).1 + 1) := Lib.hid (by unfold specN; rw [hend, if_pos hl])
        clear hend
        go_wp2
        go_ret
        exact ⟨by rw [HV.out]; rfl, rfl⟩
      · have HV : Hid (specN s = (crF s k).1) := Lib.hid (by unfold specN; rw [hend, if_neg hl])
        clear hend
        go_wp2
        go_ret
        exact ⟨by rw [HV.out]; rfl, rfl⟩

theorem pcs_len (m : ByteArray) (hm : 1 ≤ m.size) : ∀ (q : ByteArray) (ps : List ByteArray), Pcs m q ps → ps.length ≤ q.size + 1 := by
  intro q ps hp
  induction hp with
  | last r h => simp
  | more r i ps h hi _ ih => simp at ih ⊢; omega

set_option maxHeartbeats 400000 in
theorem implLines_any (s : ByteArray) (w : World) (hs : s.size ≤ 1048576) (hML : MaxLenAt w) :
    Calls Try.prog 25 #[.string s] w fun e w' => e = .returned (.int .i64 (specN s)) ∧ Below w.heap.size w w' := by
  obtain ⟨full, hp⟩ := pcs_exists crlf (by decide) s.size s (Nat.le_refl _)
  have h1 := pcs_len crlf (by decide) s full hp
  refine (callsIn_wide.1 (implLines_in s full hp (by omega) (by omega) w hML)).mono ?_
  rintro e w' ⟨rfl, hb⟩
  exact ⟨by rw [lines_agree s full hp], hb⟩

set_option maxHeartbeats 400000 in
theorem exactLines_walk (s : ByteArray) (w : World) (hs : s.size ≤ maxLen) (hsh : w.ShapedOpen Try.prog) :
    Calls Try.prog 9 #[.string s] w fun e w' => e = .returned (.bool true) ∧ Below w.heap.size w w' := by
  have HM := Lib.hid (maxLenAt_of_shaped hsh)
  clear hsh
  unfold maxLen at hs
  by_cases h1 : s.size ≤ 1048576
  · generalize hv : specN s = v
    have HV := Lib.hid hv
    clear hv
    go_enter Try.func9, Try.ntmps9
    go_wp2_with (first | (go_at_call 26; refine (specLines_any _ _ h1).mono ?_; rw [HV.out]; rintro e w1 ⟨rfl, rfl⟩) | (go_at_call 25; refine (implLines_any _ _ h1 HM.out).mono ?_; rw [HV.out]; rintro e w2 ⟨rfl, hB2⟩))
    go_ret
    exact ⟨rfl, hB2⟩
  · go_enter Try.func9, Try.ntmps9
    go_wp2
    go_ret
    exact ⟨rfl, Below.refl _ _⟩
end Go.Proofs.Ytfgfbdfijpecfaa
