/-
  The walk of spec's Trim.
-/
import Derived.Test.YtjleadlecdcdeaaRows
import Derived.WalkKit
import Derived.WalkSpells
import Derived.Lib.Hide
import Derived.Lib.Strings
import Derived.Lib.SlTrimSet
namespace Go.Proofs.Ytjleadlecdcdeaa
set_option linter.unusedVariables false
open Go.RowKit

def blankB (b : UInt8) : Bool := ([32, 9] : List UInt8).contains b
theorem blankB_iff (b : UInt8) : blankB b = true ↔ b.toNat = 32 ∨ b.toNat = 9 := by
  unfold blankB
  simp only [List.contains, List.elem]
  constructor
  · intro h
    split at h
    · rename_i h1; left; rw [beq_iff_eq] at h1; subst h1; rfl
    · split at h
      · rename_i h1; right; rw [beq_iff_eq] at h1; subst h1; rfl
      · cases h
  · rintro (h | h)
    · have : b = 32 := UInt8.toNat_inj.1 h
      subst this; rfl
    · have : b = 9 := UInt8.toNat_inj.1 h
      subst this; rfl

theorem trim_eq (l : List UInt8) (k m : Nat) (hkm : k ≤ m) (hm : m ≤ l.length) (h1 : ∀ j b, j < k → l[j]? = some b → blankB b = true) (h2 : ∀ b, k < l.length → l[k]? = some b → blankB b = false)
    (h3 : ∀ j b, m ≤ j → l[j]? = some b → blankB b = true) (h4 : ∀ b, k < m → l[m - 1]? = some b → blankB b = false) : Lib.trimS l [32, 9] = (l.drop k).take (m - k) := by
  unfold Lib.trimS
  rcases Nat.lt_or_ge k l.length with hk | hk
  · have hlk : l[k]? = some l[k] := List.getElem?_eq_getElem hk
    have hkm' : k < m := by
      rcases Nat.lt_or_ge k m with h | h
      · exact h
      · have a := h2 _ hk hlk
        have b := h3 k _ h hlk
        rw [a] at b
        cases b
    rw [Lib.trimRightS_take l [32, 9] m hm (fun j b hj hb => h3 j b hj hb) (fun b _ hb => h4 b hkm' hb)]
    rw [Lib.trimLeftS_drop (l.take m) [32, 9] k (by simp; omega) (fun j b hj hb => h1 j b hj (by rw [List.getElem?_take, if_pos (by omega)] at hb; exact hb)) (fun b hb => h2 b hk (by rw [List.getElem?_take, if_pos hkm'] at hb; exact hb))]
    rw [List.drop_take]
  · rw [Lib.trimRightS_take l [32, 9] 0 (Nat.zero_le _) (fun j b _ hb => by
      have hj : j < l.length := (List.getElem?_eq_some_iff.1 hb).1
      exact h1 j b (by omega) hb) (fun b h _ => by omega)]
    rw [List.drop_eq_nil_of_le hk, List.take_zero, List.take_nil]
    rfl

set_option maxHeartbeats 400000 in
theorem blank_yes (c : Int) (w : World) (h : c = 32 ∨ c = 9) :
    Calls Try.prog 81 #[.int .u8 c] w fun e w' => e = .returned (.bool true) ∧ w' = w := by
  rcases h with rfl | rfl
  · go_enter Try.func81, Try.ntmps81
    go_wp2
    go_ret
    exact ⟨rfl, rfl⟩
  · go_enter Try.func81, Try.ntmps81
    go_wp2
    go_ret
    exact ⟨rfl, rfl⟩
set_option maxHeartbeats 400000 in
theorem blank_no (c : Int) (w : World) (h1 : c ≠ 32) (h2 : c ≠ 9) :
    Calls Try.prog 81 #[.int .u8 c] w fun e w' => e = .returned (.bool false) ∧ w' = w := by
  have a : (c == 32) = false := by rw [beq_eq_false_iff_ne]; exact h1
  have b : (c == 9) = false := by rw [beq_eq_false_iff_ne]; exact h2
  clear h1 h2
  go_enter Try.func81, Try.ntmps81
  go_wp2
  go_ret
  exact ⟨rfl, rfl⟩

def Blanks (s : ByteArray) (a b : Nat) : Prop := ∀ j c, a ≤ j → j < b → s.data.toList[j]? = some c → blankB c = true
theorem blanks_more {s : ByteArray} {a b : Nat} (h : Blanks s a b) (c : UInt8) (hc : s.data.toList[b]? = some c) (hb : blankB c = true) : Blanks s a (b + 1) := fun j d h1 h2 h3 => by
  rcases Nat.lt_or_ge j b with h4 | h4
  · exact h j d h1 h4 h3
  · obtain rfl : j = b := by omega
    rw [hc] at h3
    injection h3 with h3
    rw [← h3]; exact hb
theorem blanks_less {s : ByteArray} {a b : Nat} (h : Blanks s (a + 1) b) (c : UInt8) (hc : s.data.toList[a]? = some c) (hb : blankB c = true) : Blanks s a b := fun j d h1 h2 h3 => by
  rcases Nat.lt_or_ge a j with h4 | h4
  · exact h j d h4 h2 h3
  · obtain rfl : j = a := by omega
    rw [hc] at h3
    injection h3 with h3
    rw [← h3]; exact hb

set_option maxRecDepth 100000 in
set_option maxHeartbeats 1000000 in
theorem specTrim_any (s : ByteArray) (w : World) (hs : s.size ≤ 1048576) :
    Calls Try.prog 104 #[.string s] w fun e w' => e = .returned (.string ⟨(Lib.trimS s.data.toList [32, 9]).toArray⟩) ∧ w' = w := by
  have hat : ∀ k (h : k < s.size), s.data.toList[k]? = some (s[k]'h) := fun k h => by
    rw [List.getElem?_eq_getElem (by simpa using h)]; rfl
  have HAT := Lib.hid hat
  clear hat
  go_enter Try.func104, Try.ntmps104
  go_wp2
  go_loop [3] (fun a => ∃ k : Nat, k ≤ s.size ∧ a = .int .i64 k ∧ Hid (Blanks s 0 k)) (fun a => s.size - (intOf a).toNat)
  case atStart => exact ⟨0, Nat.zero_le _, rfl, Lib.hid (fun j c h1 h2 => by omega)⟩
  case round =>
    obtain ⟨k, hk, rfl, hbl⟩ := hrel
    have hdone : (k < s.size → ∀ c, s.data.toList[k]? = some c → blankB c = false) ∨ (∃ h : k < s.size, blankB (s[k]'h) = true) := by
      by_cases hlt : k < s.size
      · cases hb : blankB s[k]
        · left
          intro _ c hc
          rw [HAT.out k hlt] at hc
          injection hc with hc
          rw [← hc]; exact hb
        · exact .inr ⟨hlt, hb⟩
      · exact .inl (fun h => absurd h hlt)
    rcases hdone with hno | ⟨hlt, hyes⟩
    · have HNO := Lib.hid hno
      clear hno
      have hcont : (∃ h : k < s.size, ((s[k]'h).toNat : Int) ≠ 32 ∧ ((s[k]'h).toNat : Int) ≠ 9) ∨ k = s.size := by
        by_cases hlt : k < s.size
        · left
          have h1 := HNO.out hlt _ (HAT.out k hlt)
          refine ⟨hlt, ?_, ?_⟩
          · intro e; rw [(blankB_iff _).2 (by omega)] at h1; cases h1
          · intro e; rw [(blankB_iff _).2 (by omega)] at h1; cases h1
        · right; omega
      rcases hcont with ⟨hlt, hn32, hn9⟩ | hend
      · have N32 := Lib.hid hn32
        have N9 := Lib.hid hn9
        clear hn32 hn9
        go_wp2_with (go_at_call 81; refine (blank_no _ _ N32.out N9.out).mono ?_; rintro e w' ⟨rfl, rfl⟩)
        go_loop [4] (fun b => ∃ m : Nat, k ≤ m ∧ m ≤ s.size ∧ b = .int .i64 m ∧ Hid (Blanks s m s.size)) (fun b => (intOf b).toNat)
        case atStart => exact ⟨s.size, by omega, Nat.le_refl _, rfl, Lib.hid (fun j c h1 h2 => by omega)⟩
        case round =>
          obtain ⟨m, hkm, hm, rfl, hbr⟩ := hrel
          by_cases hlt2 : k < m
          · have hm1 : m - 1 < s.size := by omega
            have hm0 : 1 ≤ m := by omega
            cases hb : blankB (s[m - 1]'hm1)
            · have hn32 : ((s[m - 1]'hm1).toNat : Int) ≠ 32 := by
                intro e; rw [(blankB_iff _).2 (by omega)] at hb; cases hb
              have hn9 : ((s[m - 1]'hm1).toNat : Int) ≠ 9 := by
                intro e; rw [(blankB_iff _).2 (by omega)] at hb; cases hb
              have M32 := Lib.hid hn32
              have M9 := Lib.hid hn9
              have HV : Hid (s.extract k m = ⟨(Lib.trimS s.data.toList [32, 9]).toArray⟩) := Lib.hid (by
                apply ByteArray.ext
                apply Array.ext'
                rw [Lib.extract_data, trim_eq s.data.toList k m (by omega) (by simpa using hm) (fun j c h1 h2 => hbl.out j c (Nat.zero_le _) h1 h2) (fun c h1 h2 => HNO.out hlt c h2) (fun j c h1 h2 => hbr.out j c h1 (by have := (List.getElem?_eq_some_iff.1 h2).1; simpa using this) h2) (fun c _ h2 => by rw [HAT.out (m - 1) hm1] at h2; injection h2 with h2; rw [← h2]; exact hb)])
              clear hn32 hn9 hb
              go_wp2_with (go_at_call 81; refine (blank_no _ _ M32.out M9.out).mono ?_; rintro e w' ⟨rfl, rfl⟩)
              go_ret
              exact ⟨by rw [← HV.out]; rfl, rfl⟩
            · have hbk := (blankB_iff _).1 hb
              have HB := Lib.hid hb
              have HBK : Hid (((s[m - 1]'hm1).toNat : Int) = 32 ∨ ((s[m - 1]'hm1).toNat : Int) = 9) := Lib.hid (by omega)
              clear hb hbk
              go_wp2_with (go_at_call 81; refine (blank_yes _ _ HBK.out).mono ?_; rintro e w' ⟨rfl, rfl⟩)
              go_round
              case rel => exact ⟨m - 1, by omega, by omega, by go_num, Lib.hid (blanks_less (by rw [show m - 1 + 1 = m by omega]; exact hbr.out) _ (HAT.out (m - 1) hm1) HB.out)⟩
              case measure => simp [intOf]; omega
          · exfalso
            obtain rfl : m = k := by omega
            have := HNO.out hlt _ (HAT.out m hlt)
            rw [hbr.out m _ (Nat.le_refl _) hlt (HAT.out m hlt)] at this
            cases this
      · have HV : Hid ((⟨(Lib.trimS s.data.toList [32, 9]).toArray⟩ : ByteArray) = ByteArray.empty) := Lib.hid (by
          apply ByteArray.ext
          apply Array.ext'
          rw [trim_eq s.data.toList s.size s.size (Nat.le_refl _) (by simp) (fun j c h1 h2 => hbl.out j c (Nat.zero_le _) (by omega) h2) (fun c h1 h2 => by simp at h1) (fun j c h1 h2 => by have := (List.getElem?_eq_some_iff.1 h2).1; simp at this; omega) (fun c h1 _ => by omega)]
          simp)
        subst hend
        go_wp2
        go_loop [4] (fun b => b = .int .i64 s.size) (fun b => 0)
        case atStart => rfl
        case round =>
          obtain rfl := hrel
          go_wp2
          go_ret
          exact ⟨by rw [HV.out]; rfl, rfl⟩
    · have hbk := (blankB_iff _).1 hyes
      have HB := Lib.hid hyes
      have HBK : Hid (((s[k]'hlt).toNat : Int) = 32 ∨ ((s[k]'hlt).toNat : Int) = 9) := Lib.hid (by omega)
      clear hyes hbk
      go_wp2_with (go_at_call 81; refine (blank_yes _ _ HBK.out).mono ?_; rintro e w' ⟨rfl, rfl⟩)
      go_round
      case rel => exact ⟨k + 1, by omega, by go_num, Lib.hid (blanks_more hbl.out _ (HAT.out k hlt) HB.out)⟩
      case measure => simp [intOf]; omega
end Go.Proofs.Ytjleadlecdcdeaa
