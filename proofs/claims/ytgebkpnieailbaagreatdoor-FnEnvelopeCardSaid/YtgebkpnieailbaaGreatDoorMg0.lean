import Derived.Test.YtgebkpnieailbaaGreatDoorRows
import Derived.WalkKit
import Derived.WalkSpells
import Derived.Lib.Hide
import Derived.Lib.Strings
import Derived.Lib.SlTrimSet
import Derived.Lib.IndexMore
import Derived.Laws.IdiomStrings
import Derived.Lib.AppendStr
import Derived.Lib.ItoaNum
import Derived.Lib.ItoaLen
import Derived.Deep.WholeRow
import Derived.Maps.StringElems
import Derived.Maps.Views
import Derived.Maps.OwnIn
import Derived.RangeFuncNested
import Derived.RangeFuncBound
import Derived.RangeFuncCalls
import Derived.RangeFuncLeaves
import Derived.RangeFuncWrites
import Derived.RangeFuncBox
import Derived.Shelf.Abstract
import Derived.Shelf.RegionOpen
import Derived.OwnWalkIn
import Derived.TacticsInMore
import Derived.LoopNIn
import Derived.LoopIn
import Derived.Outline
import Derived.StringKeys
import Derived.Deep.QuietTactic
import Derived.Maps.AppendAt
import Derived.Deep.RegionHeld3
import Derived.Lib.IndexLaws
/-
  The walk of spec's Trim.
-/
namespace Go.Proofs.YtgebkpnieailbaaGreatDoor
set_option linter.unusedVariables false
open Go.RowKit

def blankB (b : UInt8) : Bool := ([32, 9] : List UInt8).contains b
theorem blankB_iff (b : UInt8) : blankB b = true ↔ b.toNat = 32 ∨ b.toNat = 9 := by
  unfold blankB
  simp only [List.contains, List.elem]
  constructor
  · intro h
    split at h
    · rename_i h1; left; rw [beq_iff_eq] at h1; subst h1; rfl
    · split at h
      · rename_i h1; right; rw [beq_iff_eq] at h1; subst h1; rfl
      · cases h
  · rintro (h | h)
    · have : b = 32 := UInt8.toNat_inj.1 h
      subst this; rfl
    · have : b = 9 := UInt8.toNat_inj.1 h
      subst this; rfl

theorem trim_eq (l : List UInt8) (k m : Nat) (hkm : k ≤ m) (hm : m ≤ l.length) (h1 : ∀ j b, j < k → l[j]? = some b → blankB b = true) (h2 : ∀ b, k < l.length → l[k]? = some b → blankB b = false)
    (h3 : ∀ j b, m ≤ j → l[j]? = some b → blankB b = true) (h4 : ∀ b, k < m → l[m - 1]? = some b → blankB b = false) : Lib.trimS l [32, 9] = (l.drop k).take (m - k) := by
  unfold Lib.trimS
  rcases Nat.lt_or_ge k l.length with hk | hk
  · have hlk : l[k]? = some l[k] := List.getElem?_eq_getElem hk
    have hkm' : k < m := by
      rcases Nat.lt_or_ge k m with h | h
      · exact h
      · have a := h2 _ hk hlk
        have b := h3 k _ h hlk
        rw [a] at b
        cases b
    rw [Lib.trimRightS_take l [32, 9] m hm (fun j b hj hb => h3 j b hj hb) (fun b _ hb => h4 b hkm' hb)]
    rw [Lib.trimLeftS_drop (l.take m) [32, 9] k (by simp; omega) (fun j b hj hb => h1 j b hj (by rw [List.getElem?_take, if_pos (by omega)] at hb; exact hb)) (fun b hb => h2 b hk (by rw [List.getElem?_take, if_pos hkm'] at hb; exact hb))]
    rw [List.drop_take]
  · rw [Lib.trimRightS_take l [32, 9] 0 (Nat.zero_le _) (fun j b _ hb => by
      have hj : j < l.length := (List.getElem?_eq_some_iff.1 hb).1
      exact h1 j b (by omega) hb) (fun b h _ => by omega)]
    rw [List.drop_eq_nil_of_le hk, List.take_zero, List.take_nil]
    rfl

set_option maxHeartbeats 400000 in
theorem blank_yes (c : Int) (w : World) (h : c = 32 ∨ c = 9) :
    Calls Tryz.prog 109 #[.int .u8 c] w fun e w' => e = .returned (.bool true) ∧ w' = w := by
  rcases h with rfl | rfl
  · go_enter Tryz.func109, Tryz.ntmps109
    go_wp2
    go_ret
    exact ⟨rfl, rfl⟩
  · go_enter Tryz.func109, Tryz.ntmps109
    go_wp2
    go_ret
    exact ⟨rfl, rfl⟩
set_option maxHeartbeats 400000 in
theorem blank_no (c : Int) (w : World) (h1 : c ≠ 32) (h2 : c ≠ 9) :
    Calls Tryz.prog 109 #[.int .u8 c] w fun e w' => e = .returned (.bool false) ∧ w' = w := by
  have a : (c == 32) = false := by rw [beq_eq_false_iff_ne]; exact h1
  have b : (c == 9) = false := by rw [beq_eq_false_iff_ne]; exact h2
  clear h1 h2
  go_enter Tryz.func109, Tryz.ntmps109
  go_wp2
  go_ret
  exact ⟨rfl, rfl⟩

def Blanks (s : ByteArray) (a b : Nat) : Prop := ∀ j c, a ≤ j → j < b → s.data.toList[j]? = some c → blankB c = true
theorem blanks_more {s : ByteArray} {a b : Nat} (h : Blanks s a b) (c : UInt8) (hc : s.data.toList[b]? = some c) (hb : blankB c = true) : Blanks s a (b + 1) := fun j d h1 h2 h3 => by
  rcases Nat.lt_or_ge j b with h4 | h4
  · exact h j d h1 h4 h3
  · obtain rfl : j = b := by omega
    rw [hc] at h3
    injection h3 with h3
    rw [← h3]; exact hb
theorem blanks_less {s : ByteArray} {a b : Nat} (h : Blanks s (a + 1) b) (c : UInt8) (hc : s.data.toList[a]? = some c) (hb : blankB c = true) : Blanks s a b := fun j d h1 h2 h3 => by
  rcases Nat.lt_or_ge a j with h4 | h4
  · exact h j d h4 h2 h3
  · obtain rfl : j = a := by omega
    rw [hc] at h3
    injection h3 with h3
    rw [← h3]; exact hb

set_option maxRecDepth 100000 in
set_option maxHeartbeats 1000000 in
theorem specTrim_any (s : ByteArray) (w : World) (hs : s.size ≤ 1048576) :
    Calls Tryz.prog 115 #[.string s] w fun e w' => e = .returned (.string ⟨(Lib.trimS s.data.toList [32, 9]).toArray⟩) ∧ w' = w := by
  have hat : ∀ k (h : k < s.size), s.data.toList[k]? = some (s[k]'h) := fun k h => by
    rw [List.getElem?_eq_getElem (by simpa using h)]; rfl
  have HAT := Lib.hid hat
  clear hat
  go_enter Tryz.func115, Tryz.ntmps115
  go_wp2
  go_loop [3] (fun a => ∃ k : Nat, k ≤ s.size ∧ a = .int .i64 k ∧ Hid (Blanks s 0 k)) (fun a => s.size - (intOf a).toNat)
  case atStart => exact ⟨0, Nat.zero_le _, rfl, Lib.hid (fun j c h1 h2 => by omega)⟩
  case round =>
    obtain ⟨k, hk, rfl, hbl⟩ := hrel
    have hdone : (k < s.size → ∀ c, s.data.toList[k]? = some c → blankB c = false) ∨ (∃ h : k < s.size, blankB (s[k]'h) = true) := by
      by_cases hlt : k < s.size
      · cases hb : blankB s[k]
        · left
          intro _ c hc
          rw [HAT.out k hlt] at hc
          injection hc with hc
          rw [← hc]; exact hb
        · exact .inr ⟨hlt, hb⟩
      · exact .inl (fun h => absurd h hlt)
    rcases hdone with hno | ⟨hlt, hyes⟩
    · have HNO := Lib.hid hno
      clear hno
      have hcont : (∃ h : k < s.size, ((s[k]'h).toNat : Int) ≠ 32 ∧ ((s[k]'h).toNat : Int) ≠ 9) ∨ k = s.size := by
        by_cases hlt : k < s.size
        · left
          have h1 := HNO.out hlt _ (HAT.out k hlt)
          refine ⟨hlt, ?_, ?_⟩
          · intro e; rw [(blankB_iff _).2 (by omega)] at h1; cases h1
          · intro e; rw [(blankB_iff _).2 (by omega)] at h1; cases h1
        · right; omega
      rcases hcont with ⟨hlt, hn32, hn9⟩ | hend
      · have N32 := Lib.hid hn32
        have N9 := Lib.hid hn9
        clear hn32 hn9
        go_wp2_with (go_at_call 109; refine (blank_no _ _ N32.out N9.out).mono ?_; rintro e w' ⟨rfl, rfl⟩)
        go_loop [4] (fun b => ∃ m : Nat, k ≤ m ∧ m ≤ s.size ∧ b = .int .i64 m ∧ Hid (Blanks s m s.size)) (fun b => (intOf b).toNat)
        case atStart => exact ⟨s.size, by omega, Nat.le_refl _, rfl, Lib.hid (fun j c h1 h2 => by omega)⟩
        case round =>
          obtain ⟨m, hkm, hm, rfl, hbr⟩ := hrel
          by_cases hlt2 : k < m
          · have hm1 : m - 1 < s.size := by omega
            have hm0 : 1 ≤ m := by omega
            cases hb : blankB (s[m - 1]'hm1)
            · have hn32 : ((s[m - 1]'hm1).toNat : Int) ≠ 32 := by
                intro e; rw [(blankB_iff _).2 (by omega)] at hb; cases hb
              have hn9 : ((s[m - 1]'hm1).toNat : Int) ≠ 9 := by
                intro e; rw [(blankB_iff _).2 (by omega)] at hb; cases hb
              have M32 := Lib.hid hn32
              have M9 := Lib.hid hn9
              have HV : Hid (s.extract k m = ⟨(Lib.trimS s.data.toList [32, 9]).toArray⟩) := Lib.hid (by
                apply ByteArray.ext
                apply Array.ext'
                rw [Lib.extract_data, trim_eq s.data.toList k m (by omega) (by simpa using hm) (fun j c h1 h2 => hbl.out j c (Nat.zero_le _) h1 h2) (fun c h1 h2 => HNO.out hlt c h2) (fun j c h1 h2 => hbr.out j c h1 (by have := (List.getElem?_eq_some_iff.1 h2).1; simpa using this) h2) (fun c _ h2 => by rw [HAT.out (m - 1) hm1] at h2; injection h2 with h2; rw [← h2]; exact hb)])
              clear hn32 hn9 hb
              go_wp2_with (go_at_call 109; refine (blank_no _ _ M32.out M9.out).mono ?_; rintro e w' ⟨rfl, rfl⟩)
              go_ret
              exact ⟨by rw [← HV.out]; rfl, rfl⟩
            · have hbk := (blankB_iff _).1 hb
              have HB := Lib.hid hb
              have HBK : Hid (((s[m - 1]'hm1).toNat : Int) = 32 ∨ ((s[m - 1]'hm1).toNat : Int) = 9) := Lib.hid (by omega)
              clear hb hbk
              go_wp2_with (go_at_call 109; refine (blank_yes _ _ HBK.out).mono ?_; rintro e w' ⟨rfl, rfl⟩)
              go_round
              case rel => exact ⟨m - 1, by omega, by omega, by go_num, Lib.hid (blanks_less (by rw [show m - 1 + 1 = m by omega]; exact hbr.out) _ (HAT.out (m - 1) hm1) HB.out)⟩
              case measure => simp [intOf]; omega
          · exfalso
            obtain rfl : m = k := by omega
            have := HNO.out hlt _ (HAT.out m hlt)
            rw [hbr.out m _ (Nat.le_refl _) hlt (HAT.out m hlt)] at this
            cases this
      · have HV : Hid ((⟨(Lib.trimS s.data.toList [32, 9]).toArray⟩ : ByteArray) = ByteArray.empty) := Lib.hid (by
          apply ByteArray.ext
          apply Array.ext'
          rw [trim_eq s.data.toList s.size s.size (Nat.le_refl _) (by simp) (fun j c h1 h2 => hbl.out j c (Nat.zero_le _) (by omega) h2) (fun c h1 h2 => by simp at h1) (fun j c h1 h2 => by have := (List.getElem?_eq_some_iff.1 h2).1; simp at this; omega) (fun c h1 _ => by omega)]
          simp)
        subst hend
        go_wp2
        go_loop [4] (fun b => b = .int .i64 s.size) (fun b => 0)
        case atStart => rfl
        case round =>
          obtain rfl := hrel
          go_wp2
          go_ret
          exact ⟨by rw [HV.out]; rfl, rfl⟩
    · have hbk := (blankB_iff _).1 hyes
      have HB := Lib.hid hyes
      have HBK : Hid (((s[k]'hlt).toNat : Int) = 32 ∨ ((s[k]'hlt).toNat : Int) = 9) := Lib.hid (by omega)
      clear hyes hbk
      go_wp2_with (go_at_call 109; refine (blank_yes _ _ HBK.out).mono ?_; rintro e w' ⟨rfl, rfl⟩)
      go_round
      case rel => exact ⟨k + 1, by omega, by go_num, Lib.hid (blanks_more hbl.out _ (HAT.out k hlt) HB.out)⟩
      case measure => simp [intOf]; omega
end Go.Proofs.YtgebkpnieailbaaGreatDoor

/-
  Find: plain facts.
-/
namespace Go.Proofs.YtgebkpnieailbaaGreatDoor
set_option linter.unusedVariables false
open Go.RowKit

theorem occ_piece (s t : ByteArray) (k : Nat) (h : k + t.size ≤ s.size) :
    Lib.occAt s.data.toList t.data.toList k = ((s.extract k (k + t.size)).toList == t.toList) := by
  rw [Lib.occAt_iff_take _ _ _ (by simpa using h), Lib.toList_data, Lib.toList_data, Lib.extract_data]
  have e : k + t.size - k = t.data.toList.length := by simp
  rw [e]

theorem no_room (s t : ByteArray) (k : Nat) (h : s.size < k + t.size) (hk : k ≤ s.size) : Lib.occAt s.data.toList t.data.toList k = false := by
  rw [← Bool.not_eq_true]
  intro hc
  rcases Lib.occAt_room hc with h1 | h1
  · simp at h1; omega
  · have : t.size = 0 := by
      have : t.data.toList.length = 0 := by rw [h1]; rfl
      simpa using this
    omega

end Go.Proofs.YtgebkpnieailbaaGreatDoor

/-
  Texts made of lists of bytes; how long several are together; plain.
-/
namespace Go.Proofs.YtgebkpnieailbaaGreatDoor
set_option linter.unusedVariables false
open Go.RowKit

def mkB (l : List UInt8) : ByteArray := ⟨l.toArray⟩
theorem mkB_list (l : List UInt8) : (mkB l).data.toList = l := rfl
theorem mkB_size (l : List UInt8) : (mkB l).size = l.length := by simp [mkB, ByteArray.size]
theorem mkB_extract (s : ByteArray) (a b : Nat) : s.extract a b = mkB ((s.data.toList.drop a).take (b - a)) := Lib.extract_eq s a b

/-- How long all is together. -/
def total (l : List (List UInt8)) : Nat := (l.map List.length).foldr (· + ·) 0
theorem total_cons (a : List UInt8) (l : List (List UInt8)) : total (a :: l) = a.length + total l := rfl
theorem total_append (a b : List (List UInt8)) : total (a ++ b) = total a + total b := by
  induction a with
  | nil => simp [total]
  | cons x r ih => rw [List.cons_append, total_cons, total_cons, ih]; omega
theorem total_mem {l : List (List UInt8)} {x : List UInt8} (h : x ∈ l) : x.length ≤ total l := by
  induction l with
  | nil => cases h
  | cons a r ih =>
    rw [total_cons]
    rcases List.mem_cons.1 h with rfl | h
    · omega
    · have := ih h; omega
theorem total_set : ∀ (l : List (List UInt8)) (i : Nat) (x : List UInt8), i < l.length → total (l.set i (l.getD i [] ++ x)) = total l + x.length
  | [], _, _, h => by simp at h
  | a :: r, 0, x, _ => by simp [total_cons]; omega
  | a :: r, i + 1, x, h => by
    have := total_set r i x (by simpa using h)
    simp only [List.set_cons_succ, List.getD_cons_succ, total_cons, this]
    omega
end Go.Proofs.YtgebkpnieailbaaGreatDoor

/-
  Header fields: plain.
-/
namespace Go.Proofs.YtgebkpnieailbaaGreatDoor
set_option linter.unusedVariables false
open Go.RowKit

/-- The lines of a text; what stands of the first one is in acc. -/
def linesA : List UInt8 → List UInt8 → List (List UInt8)
  | acc, [] => if acc = [] then [] else [acc]
  | acc, [b] => [acc ++ [b]]
  | acc, b :: c :: r => if b = 13 ∧ c = 10 then acc :: linesA [] r else linesA (acc ++ [b]) (c :: r)
termination_by _ l => l.length

/-- .. of a text from index i on, its line from index j on. -/
def linesAt (l : List UInt8) (j i : Nat) : List (List UInt8) := linesA ((l.drop j).take (i - j)) (l.drop i)
theorem linesAt_zero (l : List UInt8) : linesAt l 0 0 = linesA [] l := by simp [linesAt]
theorem linesAt_mark (l : List UInt8) (j i : Nat) (h0 : i + 1 < l.length) (hb : l[i]? = some 13) (hc : l[i + 1]? = some 10) :
    linesAt l j i = (l.drop j).take (i - j) :: linesAt l (i + 2) (i + 2) := by
  have e : l.drop i = 13 :: 10 :: l.drop (i + 2) := by
    rw [List.drop_eq_getElem_cons (by omega : i < l.length), List.drop_eq_getElem_cons (by omega : i + 1 < l.length)]
    rw [List.getElem?_eq_getElem (by omega)] at hb hc
    rw [Option.some.inj hb, Option.some.inj hc]
  unfold linesAt
  rw [e, linesA, if_pos ⟨rfl, rfl⟩]
  simp
theorem linesAt_next (l : List UInt8) (j i : Nat) (hji : j ≤ i) (h0 : i + 1 < l.length) (h : ¬ (l[i]? = some 13 ∧ l[i + 1]? = some 10)) : linesAt l j i = linesAt l j (i + 1) := by
  have e : l.drop i = l[i] :: l[i + 1] :: l.drop (i + 2) := by
    rw [List.drop_eq_getElem_cons (by omega : i < l.length), List.drop_eq_getElem_cons (by omega : i + 1 < l.length)]
  have e2 : l.drop (i + 1) = l[i + 1] :: l.drop (i + 2) := by rw [List.drop_eq_getElem_cons (by omega : i + 1 < l.length)]
  have hn : ¬ (l[i] = 13 ∧ l[i + 1] = 10) := by
    rw [List.getElem?_eq_getElem (by omega), List.getElem?_eq_getElem (by omega)] at h
    intro ⟨a, b⟩
    exact h ⟨by rw [a], by rw [b]⟩
  have e3 : (l.drop j).take (i + 1 - j) = (l.drop j).take (i - j) ++ [l[i]] := by
    rw [show i + 1 - j = i - j + 1 by omega, List.take_add_one, List.getElem?_drop, show j + (i - j) = i by omega, List.getElem?_eq_getElem (by omega)]
    rfl
  unfold linesAt
  rw [e, linesA, if_neg hn, e3, e2]
theorem linesAt_end (l : List UInt8) (j i : Nat) (hji : j ≤ i) (hi : i ≤ l.length) (h0 : l.length ≤ i + 1) : linesAt l j i = if j < l.length then [l.drop j] else [] := by
  unfold linesAt
  by_cases h1 : i = l.length
  · subst h1
    rw [List.drop_length, linesA]
    by_cases h2 : j < l.length
    · rw [if_pos h2, if_neg, List.take_of_length_le (by simp)]
      intro h3
      have := congrArg List.length h3
      simp at this
      omega
    · rw [if_neg h2, if_pos]
      rw [show l.length - j = 0 by omega, List.take_zero]
  · have e : l.drop i = [l[i]'(by omega)] := by
      rw [List.drop_eq_getElem_cons (by omega : i < l.length), List.drop_eq_nil_of_le (by omega)]
    rw [e, linesA, if_pos (by omega : j < l.length)]
    have e3 : (l.drop j).take (i + 1 - j) = (l.drop j).take (i - j) ++ [l[i]'(by omega)] := by
      rw [show i + 1 - j = i - j + 1 by omega, List.take_add_one, List.getElem?_drop, show j + (i - j) = i by omega, List.getElem?_eq_getElem (by omega)]
      rfl
    rw [← e3, List.take_of_length_le (by simp; omega)]

/-- The line begins with a blank. -/
def blankHead (l : List UInt8) : Bool := match l with | [] => false | b :: _ => blankB b
/-- A line more: it goes on, or begins. -/
def addLine (texts : List (List UInt8)) (l : List UInt8) : List (List UInt8) :=
  if blankHead l && decide (0 < texts.length) then texts.set (texts.length - 1) (texts.getD (texts.length - 1) [] ++ l) else texts ++ [l]
def joinT : List (List UInt8) → List (List UInt8) → List (List UInt8)
  | texts, [] => texts
  | texts, l :: r => joinT (addLine texts l) r

/-- A byte of a field's name. -/
def nameB (b : UInt8) : Bool := decide (33 ≤ b.toNat) && decide (b.toNat ≤ 126)
structure Fl where
  name : List UInt8
  body : List UInt8
/-- The field that a text is. -/
def fieldOf (t : List UInt8) : Option Fl :=
  if Lib.index t [58] < 1 then none
  else if (t.take (Lib.index t [58]).toNat).all nameB then some ⟨t.take (Lib.index t [58]).toNat, Lib.trimS (t.drop ((Lib.index t [58]).toNat + 1)) [32, 9]⟩
  else none
def fieldsL (s : List UInt8) : List Fl := (joinT [] (linesA [] s)).filterMap fieldOf

def flCells (l : List Fl) : List Value := l.flatMap fun x => [.string (mkB x.name), .string (mkB x.body)]
theorem flCells_len (l : List Fl) : (flCells l).length = l.length * 2 := by
  induction l with
  | nil => rfl
  | cons a r ih => simp [flCells] at ih ⊢; omega
theorem flCells_append (a b : List Fl) : flCells (a ++ b) = flCells a ++ flCells b := by simp [flCells]
theorem flCells_one (l : List Fl) : ∀ u ∈ flCells l, u.oneCell' = true := by
  intro u hu
  obtain ⟨x, hx, hy⟩ := List.mem_flatMap.1 hu
  simp only [List.mem_cons, List.not_mem_nil, or_false] at hy
  rcases hy with rfl | rfl <;> rfl

theorem total_addLine (t : List (List UInt8)) (l : List UInt8) : total (addLine t l) = total t + l.length := by
  unfold addLine
  split
  · rename_i h
    have h2 : 0 < t.length := by
      simp at h
      exact h.2
    exact total_set t _ l (by omega)
  · rw [total_append, total_cons]
    simp [total]
theorem addLine_len (t : List (List UInt8)) (l : List UInt8) : (addLine t l).length ≤ t.length + 1 := by
  unfold addLine
  split <;> simp
theorem total_lines : ∀ (n : Nat) (acc l : List UInt8), l.length ≤ n → total (linesA acc l) ≤ acc.length + l.length ∧ (linesA acc l).length ≤ l.length + 1
  | n, acc, [], _ => by
    rw [linesA]
    split <;> simp [total]
  | n, acc, [b], _ => by
    rw [linesA]
    simp [total]
  | 0, acc, b :: c :: r, h => by simp at h
  | n + 1, acc, b :: c :: r, h => by
    rw [linesA]
    simp at h
    split
    · have := total_lines n [] r (by omega)
      rw [total_cons]
      simp at this ⊢
      omega
    · have := total_lines n (acc ++ [b]) (c :: r) (by simp; omega)
      simp at this ⊢
      omega
end Go.Proofs.YtgebkpnieailbaaGreatDoor

/-
  Trim: plain facts.
-/
namespace Go.Proofs.YtgebkpnieailbaaGreatDoor
set_option linter.unusedVariables false
open Go.RowKit

theorem dw_fix (p : UInt8 → Bool) (l : List UInt8) (h : ∀ b, l.head? = some b → p b = false) : l.dropWhile p = l := by
  cases l with
  | nil => rfl
  | cons a l => rw [List.dropWhile_cons, h a rfl]; rfl
theorem dw_head (p : UInt8 → Bool) : ∀ (l : List UInt8) (b : UInt8), (l.dropWhile p).head? = some b → p b = false := by
  intro l
  induction l with
  | nil => intro b h; cases h
  | cons a l ih =>
    intro b h
    rw [List.dropWhile_cons] at h
    cases hp : p a
    · rw [hp] at h
      injection h with h
      subst h; exact hp
    · rw [hp] at h
      exact ih b h
theorem trim_twice (l cs : List UInt8) : Lib.trimS (Lib.trimS l cs) cs = Lib.trimS l cs := by
  unfold Lib.trimS
  generalize hy : Lib.trimRightS l cs = y
  have h1 : Lib.trimRightS (Lib.trimLeftS y cs) cs = Lib.trimLeftS y cs := by
    unfold Lib.trimRightS
    rw [dw_fix, List.reverse_reverse]
    intro b hb
    obtain ⟨t, ht⟩ := List.dropWhile_suffix (l := y) (cs.contains ·)
    have h2 : y.reverse.head? = some b := by
      rw [← ht, List.reverse_append]
      unfold Lib.trimLeftS at hb
      rw [List.head?_append, hb]; rfl
    rw [← hy] at h2
    unfold Lib.trimRightS at h2
    rw [List.reverse_reverse] at h2
    exact dw_head _ _ b h2
  rw [h1]
  unfold Lib.trimLeftS
  exact dw_fix _ _ (dw_head _ y)
theorem dw_out (p : UInt8 → Bool) (l : List UInt8) (a c : UInt8) (ha : p a = true) (hc : p c = true) : (([a] ++ l ++ [c]).reverse.dropWhile p).reverse.dropWhile p = (l.reverse.dropWhile p).reverse.dropWhile p := by
  have e : ([a] ++ l ++ [c]).reverse = c :: (l.reverse ++ [a]) := by simp
  rw [e, List.dropWhile_cons, if_pos hc, List.dropWhile_append]
  cases hd : l.reverse.dropWhile p with
  | nil => simp [ha]
  | cons x xs => simp [ha]
theorem trim_out (l cs : List UInt8) (a c : UInt8) (ha : cs.contains a = true) (hc : cs.contains c = true) : Lib.trimS ([a] ++ l ++ [c]) cs = Lib.trimS l cs :=
  dw_out (cs.contains ·) l a c ha hc
end Go.Proofs.YtgebkpnieailbaaGreatDoor

/-
  A row of bytes of the call's own: what a conversion of a string to bytes lays, read, written, and turned back.
-/
namespace Go.Proofs.YtgebkpnieailbaaGreatDoor
set_option linter.unusedVariables false
open Go.RowKit

def bv (b : UInt8) : Value := .int .u8 (b.toNat : Int)

/-- Block g holds, ahead of its mark, the bytes l. -/
def Buf (w : World) (g : Nat) (T : TypeId) (l : List UInt8) : Prop :=
  ∃ cs lo hi, w.heap[g]? = some (.cells cs T (lo, hi)) ∧ (l.length ≤ lo ∨ hi ≤ lo) ∧ ∀ j, j < l.length → cs[j]? = some (bv (l.getD j 0))

theorem Buf.lt {w : World} {g : Nat} {T : TypeId} {l : List UInt8} (h : Buf w g T l) : g < w.heap.size := by
  obtain ⟨cs, lo, hi, hg, _, _⟩ := h
  exact (Array.getElem?_eq_some_iff.1 hg).1

theorem Buf.cell {w : World} {g : Nat} {T : TypeId} {l : List UInt8} (h : Buf w g T l) (j : Nat) (hj : j < l.length) : w.cell? ⟨g, j, none⟩ = some (bv (l.getD j 0)) := by
  obtain ⟨cs, lo, hi, hg, _, hc⟩ := h
  simp only [World.cell?, hg]
  simpa using hc j hj

theorem Buf.free {w : World} {g : Nat} {T : TypeId} {l : List UInt8} (h : Buf w g T l) (j : Nat) (hj : j < l.length) : w.frozen? ⟨g, j, none⟩ = false := by
  obtain ⟨cs, lo, hi, hg, hl, _⟩ := h
  simp only [World.frozen?, hg]
  rcases hl with h1 | h1
  · have : decide (lo ≤ j) = false := by simp; omega
    simp [this]
  · have : (decide (lo ≤ j) && decide (j < hi)) = false := by
      rw [Bool.and_eq_false_iff]
      by_cases h2 : lo ≤ j
      · right; simp; omega
      · left; simp; omega
    simpa using this

theorem Buf.store {w : World} {g : Nat} {T : TypeId} {l : List UInt8} (h : Buf w g T l) (j : Nat) (hj : j < l.length) (b : UInt8) : Buf (w.setCell ⟨g, j, none⟩ (bv b)) g T (l.set j b) := by
  obtain ⟨cs, lo, hi, hg, hl, hc⟩ := h
  refine ⟨cs.setIfInBounds j (bv b), lo, hi, ?_, by simpa using hl, ?_⟩
  · rw [setCell_eq_setRow w g j cs T (lo, hi) (bv b) hg]
    exact setRow_heap w g cs _ T _ hg
  · intro i hi'
    simp only [List.length_set] at hi'
    rw [Array.getElem?_setIfInBounds]
    by_cases e : j = i
    · subst e
      have hs : j < cs.size := by
        have := hc j hj
        exact (Array.getElem?_eq_some_iff.1 this).1
      simp [hs, List.getD, hj]
    · rw [if_neg e, hc i hi']
      simp [List.getD, e]

theorem Buf.drew {w : World} {g : Nat} {T : TypeId} {l : List UInt8} (h : Buf w g T l) : Buf w.drew g T l := h
theorem Buf.of_heap {w w' : World} {g : Nat} {T : TypeId} {l : List UInt8} (h : Buf w g T l) (e : w'.heap[g]? = w.heap[g]?) : Buf w' g T l := by
  obtain ⟨cs, lo, hi, hg, hl, hc⟩ := h
  exact ⟨cs, lo, hi, e.trans hg, hl, hc⟩
theorem Buf.below {B : Nat} {w w' : World} {g : Nat} {T : TypeId} {l : List UInt8} (h : Buf w g T l) (hb : Below B w w') (hg : g < B) : Buf w' g T l := h.of_heap (hb.block g hg)
theorem Buf.alloc {w : World} {g : Nat} {T : TypeId} {l : List UInt8} (h : Buf w g T l) (o : Obj) : Buf (w.alloc o) g T l := h.of_heap (Below.heap_alloc w o g h.lt)
theorem Buf.other {w : World} {g : Nat} {T : TypeId} {l : List UInt8} (h : Buf w g T l) (a : Addr) (ha : g ≠ a.block) (u : Value) : Buf (w.setCell a u) g T l := h.of_heap (Below.heap_setCell w a u g ha)

/-- 'string(b)'. -/
theorem Buf.back {P : Program} {w : World} {g : Nat} {T : TypeId} {l : List UInt8} (h : Buf w g T l) (src dst e : TypeId) (cap n : Nat) (hn : n = l.length) (hs : P.underlying src = some (.slice e)) (he : P.underlying e = some (.int .u8)) (hd : P.underlying dst = some .string) :
    (convert src dst (.slice (some ⟨g, 0, none⟩) n cap)).run P w = .ok (.string ⟨l.toArray⟩) w := by
  subst hn
  refine run_convert_bytes_back w src dst e ⟨g, 0, none⟩ cap l hs he hd fun j hj => ?_
  have hadd : (⟨g, 0, none⟩ : Addr).add j = ⟨g, j, none⟩ := by unfold Addr.add; split <;> simp_all
  rw [hadd, h.cell j hj]
  simp [bv, List.getD, hj]

/-- '[]byte(s)'. -/
theorem conv_bytes {P : Program} (w : World) (src dst e : TypeId) (s : ByteArray) (hs : P.underlying src = some .string) (hd : P.underlying dst = some (.slice e)) (he : P.underlying e = some (.int .u8)) :
    ∃ W cap, (convert src dst (.string s)).run P w = .ok (.slice (some ⟨w.heap.size, 0, none⟩) s.size cap) W ∧ Buf W w.heap.size e s.data.toList ∧ Below w.heap.size w W ∧ W.heap.size = w.heap.size + 1 := by
  refine ⟨_, _, run_bytes_of_string w src dst e s hs hd he, ?_, ((Below.refl _ _).drew).alloc (Nat.le_refl _) _, by simp⟩
  refine ⟨_, _, _, heap_alloc_new _ _, ?_, ?_⟩
  · left
    simp [bytesRow]
  · intro j hj
    rw [bytesRow_at _ _ _ (by simpa using hj)]
    have hj' : j < s.data.size := by simpa using hj
    simp [bv, List.getD]
    rw [Array.getElem?_eq_getElem hj']
    rfl
end Go.Proofs.YtgebkpnieailbaaGreatDoor

/-
  A row of bytes of the call's own: appended to, and turned to a string.
-/
namespace Go.Proofs.YtgebkpnieailbaaGreatDoor
set_option linter.unusedVariables false
open Go.RowKit

theorem infoByteJ : (Tryz.prog.info? 5).map (fun i => (i.zero, i.size, i.bytes)) = some (some (.int .u8 0), 1, 1) := by kernel_rfl
theorem strCells_bv (s : ByteArray) : Lib.strCells s = s.data.toList.map bv := rfl
theorem row_app {w : World} {B : Nat} {T : TypeId} {v : Value} {L : List UInt8} {s : ByteArray} (h : w.ownsRow B T 1 v (L.length + s.size) (L.map bv ++ Lib.strCells s)) :
    w.ownsRow B T 1 v (L ++ s.data.toList).length ((L ++ s.data.toList).map bv) := by
  rw [strCells_bv] at h
  simpa using h
theorem rowJ_form {w : World} {B : Nat} {e : TypeId} {v : Value} {n : Nat} {xs : List Value} (h : w.ownsRow B e 1 v n xs) : (v = .slice none 0 0 ∧ n = 0) ∨ ∃ g cap, v = .slice (some ⟨g, 0, none⟩) n cap ∧ n ≤ cap := by
  rcases h.2 with ⟨rfl, rfl⟩ | ⟨g, cap, cur, rfl, _, _, hc, _⟩
  · exact .inl ⟨rfl, rfl⟩
  · exact .inr ⟨g, cap, rfl, hc⟩
theorem rowJ_back {P : Program} {w : World} {B : Nat} {v : Value} {T : TypeId} {l : List UInt8} (h : w.ownsRow B T 1 v l.length (l.map bv)) (src dst e : TypeId) (hs : P.underlying src = some (.slice e)) (he : P.underlying e = some (.int .u8)) (hd : P.underlying dst = some .string) :
    (convert src dst v).run P w = .ok (.string ⟨l.toArray⟩) w := by
  rcases rowJ_form h with ⟨rfl, h0⟩ | ⟨g, cap, rfl, hcap⟩
  · obtain rfl : l = [] := List.eq_nil_of_length_eq_zero h0
    simp [convert, run_underlying hs, run_underlying hd, run_underlying he, Conv.bytesToString, Sem.run_pure]
    rfl
  · exact run_convert_bytes_back (P := P) w src dst e ⟨g, 0, none⟩ cap l hs he hd (fun j hj => by
      have hadd : (⟨g, 0, none⟩ : Addr).add j = ⟨g, j, none⟩ := by unfold Addr.add; split <;> simp_all
      rw [hadd, h.cellAt j (by omega), List.getElem?_map, List.getElem?_eq_getElem (by omega)]
      simp [bv])
end Go.Proofs.YtgebkpnieailbaaGreatDoor

/-
  Words: plain lists of bytes (what an atom is, how a text is quoted).
-/
namespace Go.Proofs.YtgebkpnieailbaaGreatDoor
set_option linter.unusedVariables false
open Go.RowKit

def hasL (b : UInt8) (l : List UInt8) : Bool := l.any fun x => x == b
def specials : List UInt8 := [40, 41, 123, 37, 42, 34, 92, 93]
/-- A byte of an atom. -/
def atomB (b : UInt8) : Bool := decide (33 ≤ b.toNat ∧ b.toNat ≤ 126) && !hasL b specials
def atomOk (l : List UInt8) : Bool := l.all atomB && !l.isEmpty
def plainB (b : UInt8) : Bool := decide (32 ≤ b.toNat ∧ b.toNat ≤ 126)
def plainAll (l : List UInt8) : Bool := l.all plainB
def escB (b : UInt8) : List UInt8 := if b = 34 ∨ b = 92 then [92, b] else [b]
def quoteL (l : List UInt8) : List UInt8 := 34 :: l.flatMap escB ++ [34]
theorem hasL_take (b : UInt8) (l : List UInt8) (k : Nat) (h : k < l.length) : hasL b (l.take (k + 1)) = (hasL b (l.take k) || (l.getD k 0 == b)) := by
  unfold hasL
  rw [List.take_add_one, List.any_append, List.getD_eq_getElem?_getD, List.getElem?_eq_getElem h]
  simp
theorem all_take (p : UInt8 → Bool) (l : List UInt8) (k : Nat) (h : k < l.length) : (l.take (k + 1)).all p = ((l.take k).all p && p (l.getD k 0)) := by
  rw [List.take_add_one, List.all_append, List.getD_eq_getElem?_getD, List.getElem?_eq_getElem h]
  simp
theorem all_false (p : UInt8 → Bool) (l : List UInt8) (k : Nat) (h : k < l.length) (hp : p (l.getD k 0) = false) : l.all p = false := by
  cases ha : l.all p with
  | false => rfl
  | true =>
    rw [List.all_eq_true] at ha
    have := ha (l.getD k 0) (by
      rw [List.getD_eq_getElem?_getD, List.getElem?_eq_getElem h]
      exact List.getElem_mem _)
    rw [hp] at this
    cases this
theorem has_true (b : UInt8) (l : List UInt8) (k : Nat) (h : k < l.length) (hp : l.getD k 0 = b) : hasL b l = true := by
  unfold hasL
  rw [List.any_eq_true]
  refine ⟨l.getD k 0, ?_, by rw [hp]; exact beq_self_eq_true _⟩
  rw [List.getD_eq_getElem?_getD, List.getElem?_eq_getElem h]
  exact List.getElem_mem _
theorem quote_len (l : List UInt8) : (quoteL l).length ≤ 2 * l.length + 2 := by
  unfold quoteL
  have : (l.flatMap escB).length ≤ 2 * l.length := by
    induction l with
    | nil => simp
    | cons b l ih =>
      rw [List.flatMap_cons, List.length_append, List.length_cons]
      have : (escB b).length ≤ 2 := by unfold escB; split <;> simp
      omega
  rw [List.length_append, List.length_cons, List.length_singleton]
  omega
end Go.Proofs.YtgebkpnieailbaaGreatDoor

/-
  Addresses: plain (Unquote, Commas).
-/
namespace Go.Proofs.YtgebkpnieailbaaGreatDoor
set_option linter.unusedVariables false
open Go.RowKit

/-- Backslashes struck, but the last one. -/
def unesc : List UInt8 → List UInt8
  | [] => []
  | [b] => [b]
  | b :: c :: r => if b = 92 then c :: unesc r else b :: unesc (c :: r)
/-- .. where the byte ahead was (e) a backslash that counts. -/
def unescA (e : Bool) (l : List UInt8) : List UInt8 :=
  if e then (match l with | [] => [] | c :: r => c :: unesc r) else unesc l
theorem unesc_cons (b : UInt8) (r : List UInt8) (h : b ≠ 92) : unesc (b :: r) = b :: unesc r := by
  cases r with
  | nil => simp [unesc]
  | cons c r => rw [unesc, if_neg h]
theorem unesc_len : ∀ (n : Nat) (l : List UInt8), l.length ≤ n → (unesc l).length ≤ l.length
  | _, [], _ => by simp [unesc]
  | _, [b], _ => by simp [unesc]
  | 0, b :: c :: r, h => by simp at h
  | n + 1, b :: c :: r, h => by
    rw [unesc]
    simp at h
    split
    · have := unesc_len n r (by omega)
      simp; omega
    · have := unesc_len n (c :: r) (by simp; omega)
      simp at this ⊢; omega
/-- It stands between two quotes. -/
def quotedL (t : List UInt8) : Bool := decide (2 ≤ t.length) && (t.getD 0 0 == 34) && (t.getD (t.length - 1) 0 == 34)
def unqT (t : List UInt8) : List UInt8 := if quotedL t then unesc ((t.drop 1).take (t.length - 2)) else t
def unqL (l : List UInt8) : List UInt8 := unqT (Lib.trimS l [32, 9])
theorem trimR_len (l cs : List UInt8) : (Lib.trimRightS l cs).length ≤ l.length := by
  unfold Lib.trimRightS
  rw [List.length_reverse]
  exact Nat.le_trans (List.dropWhile_suffix _).length_le (by rw [List.length_reverse]; exact Nat.le_refl _)
theorem trimLen (l cs : List UInt8) : (Lib.trimS l cs).length ≤ l.length := by
  unfold Lib.trimS Lib.trimLeftS
  exact Nat.le_trans (List.dropWhile_suffix _).length_le (trimR_len l cs)
theorem unqL_len (l : List UInt8) : (unqL l).length ≤ l.length := by
  unfold unqL unqT
  have := trimLen l [32, 9]
  split
  · have h := unesc_len _ (((Lib.trimS l [32, 9]).drop 1).take ((Lib.trimS l [32, 9]).length - 2)) (Nat.le_refl _)
    rw [List.length_take, List.length_drop] at h
    omega
  · exact this

theorem unesc_escs : ∀ (s : List UInt8), unesc (s.flatMap escB) = s
  | [] => rfl
  | b :: r => by
    rw [List.flatMap_cons]
    unfold escB
    split
    · have := unesc_escs r
      rw [List.cons_append, List.cons_append, unesc, if_pos rfl, List.nil_append]
      unfold escB at this
      rw [this]
    · rename_i h
      rw [List.cons_append, List.nil_append, unesc_cons b _ (fun h2 => h (.inr h2))]
      have := unesc_escs r
      unfold escB at this
      rw [this]
theorem quote_split (s : List UInt8) : quoteL s = 34 :: s.flatMap escB ++ [34] := rfl
theorem trim_fix (l : List UInt8) (h1 : ∀ b, l.head? = some b → blankB b = false) (h2 : ∀ b, l.getLast? = some b → blankB b = false) : Lib.trimS l [32, 9] = l := by
  have e : Lib.trimRightS l [32, 9] = l := by
    unfold Lib.trimRightS
    rw [dw_fix _ _ (fun b hb => ?_), List.reverse_reverse]
    rw [List.head?_reverse] at hb
    exact h2 b hb
  unfold Lib.trimS
  rw [e]
  exact dw_fix _ _ h1
theorem trim_quote (s : List UInt8) : Lib.trimS (quoteL s) [32, 9] = quoteL s :=
  trim_fix _ (fun b hb => by
    have : b = 34 := (Option.some.inj (by simpa [quoteL] using hb)).symm
    subst this; rfl) (fun b hb => by
    have : b = 34 := by
      unfold quoteL at hb
      rw [List.getLast?_append] at hb
      exact (Option.some.inj (by simpa using hb)).symm
    subst this; rfl)
theorem unqL_quote (s : List UInt8) : unqL (quoteL s) = s := by
  unfold unqL
  rw [trim_quote]
  have hl : (quoteL s).length = (s.flatMap escB).length + 2 := by simp [quoteL]
  have hq : quotedL (quoteL s) = true := by
    unfold quotedL
    rw [hl]
    have e1 : (quoteL s).getD 0 0 = 34 := rfl
    have e2 : (quoteL s).getD ((s.flatMap escB).length + 2 - 1) 0 = 34 := by
      rw [List.getD_eq_getElem?_getD]
      unfold quoteL
      rw [show (s.flatMap escB).length + 2 - 1 = (34 :: s.flatMap escB).length by simp, List.getElem?_append_right (Nat.le_refl _)]
      simp
    rw [e1, e2]
    simp
  unfold unqT
  rw [if_pos hq, hl]
  have e3 : ((quoteL s).drop 1).take ((s.flatMap escB).length + 2 - 2) = s.flatMap escB := by
    unfold quoteL
    rw [List.cons_append, List.drop_one, List.tail_cons, show (s.flatMap escB).length + 2 - 2 = (s.flatMap escB).length by omega, List.take_left]
  rw [e3, unesc_escs]

/-- Within quotes behind byte b. -/
def nextQ (q e : Bool) (b : UInt8) : Bool := if b = 34 ∧ e = false then !q else q
/-- A backslash that counts. -/
def nextE (e : Bool) (b : UInt8) : Bool := (b == 92) && !e
/-- The stretches between commas, the first one begun. -/
def comR (q e : Bool) (cur : List UInt8) : List UInt8 → List (List UInt8)
  | [] => [cur]
  | b :: r => if b = 44 ∧ nextQ q e b = false then cur :: comR (nextQ q e b) (nextE e b) [] r else comR (nextQ q e b) (nextE e b) (cur ++ [b]) r
def keepT (l : List (List UInt8)) : List (List UInt8) := (l.map (fun x => Lib.trimS x [32, 9])).filter fun x => !x.isEmpty
def comL (s : List UInt8) : List (List UInt8) := keepT (comR false false [] s)
/-- .. of a text from index i on, its stretch from index j on. -/
def comAt (l : List UInt8) (q e : Bool) (j i : Nat) : List (List UInt8) := comR q e ((l.drop j).take (i - j)) (l.drop i)
theorem comAt_zero (l : List UInt8) : keepT (comAt l false false 0 0) = comL l := by simp [comAt, comL]
theorem comAt_end (l : List UInt8) (q e : Bool) (j : Nat) : comAt l q e j l.length = [l.drop j] := by
  unfold comAt
  rw [List.drop_length, comR, List.take_of_length_le (by simp)]
theorem comAt_sep (l : List UInt8) (q e : Bool) (j i : Nat) (b : UInt8) (hi : l[i]? = some b) (h : b = 44 ∧ nextQ q e b = false) :
    comAt l q e j i = (l.drop j).take (i - j) :: comAt l (nextQ q e b) (nextE e b) (i + 1) (i + 1) := by
  have hlt : i < l.length := (List.getElem?_eq_some_iff.1 hi).1
  unfold comAt
  rw [List.drop_eq_getElem_cons hlt]
  rw [List.getElem?_eq_getElem hlt] at hi
  rw [Option.some.inj hi, comR, if_pos h]
  simp
theorem comAt_next (l : List UInt8) (q e : Bool) (j i : Nat) (b : UInt8) (hji : j ≤ i) (hi : l[i]? = some b) (h : ¬ (b = 44 ∧ nextQ q e b = false)) :
    comAt l q e j i = comAt l (nextQ q e b) (nextE e b) j (i + 1) := by
  have hlt : i < l.length := (List.getElem?_eq_some_iff.1 hi).1
  unfold comAt
  rw [List.drop_eq_getElem_cons hlt]
  have e3 : (l.drop j).take (i + 1 - j) = (l.drop j).take (i - j) ++ [b] := by
    rw [show i + 1 - j = i - j + 1 by omega, List.take_add_one, List.getElem?_drop, show j + (i - j) = i by omega, hi]
    rfl
  rw [List.getElem?_eq_getElem hlt] at hi
  rw [Option.some.inj hi, comR, if_neg h, e3]
theorem keepT_cons (x : List UInt8) (r : List (List UInt8)) : keepT (x :: r) = (if Lib.trimS x [32, 9] = [] then [] else [Lib.trimS x [32, 9]]) ++ keepT r := by
  unfold keepT
  rw [List.map_cons, List.filter_cons]
  cases h : Lib.trimS x [32, 9] with
  | nil => simp
  | cons a t => simp
theorem keepT_nil : keepT [] = [] := rfl

/-- Parts are no more than the text. -/
theorem comR_total : ∀ (l : List UInt8) (q e : Bool) (cur : List UInt8), total (comR q e cur l) ≤ cur.length + l.length ∧ (comR q e cur l).length ≤ l.length + 1
  | [], q, e, cur => by simp [comR, total]
  | b :: r, q, e, cur => by
    rw [comR]
    split
    · have := comR_total r (nextQ q e b) (nextE e b) []
      rw [total_cons]
      simp at this ⊢
      omega
    · have := comR_total r (nextQ q e b) (nextE e b) (cur ++ [b])
      simp at this ⊢
      omega
theorem keepT_total : ∀ (l : List (List UInt8)), total (keepT l) ≤ total l ∧ (keepT l).length ≤ l.length
  | [] => by simp [keepT, total]
  | x :: r => by
    have := keepT_total r
    have h := trimLen x [32, 9]
    rw [keepT_cons, total_append, total_cons]
    split
    · simp [total] at this ⊢
      omega
    · simp [total] at this ⊢
      omega
theorem comL_total (l : List UInt8) : total (comL l) ≤ l.length ∧ (comL l).length ≤ l.length + 1 := by
  have h1 := comR_total l false false []
  have h2 := keepT_total (comR false false [] l)
  unfold comL
  simp at h1
  omega

/-- Each part is trimmed, isn't empty, and stands in the text. -/
theorem comR_infix : ∀ (l : List UInt8) (q e : Bool) (cur x : List UInt8), x ∈ comR q e cur l → ∃ a b, cur ++ l = a ++ x ++ b
  | [], q, e, cur, x, h => by
    simp [comR] at h
    exact ⟨[], [], by simp [h]⟩
  | b :: r, q, e, cur, x, h => by
    rw [comR] at h
    split at h
    · rcases List.mem_cons.1 h with rfl | h
      · exact ⟨[], b :: r, by simp⟩
      · obtain ⟨a, c, hx⟩ := comR_infix r _ _ [] x h
        rw [List.nil_append] at hx
        exact ⟨cur ++ b :: a, c, by rw [hx]; simp⟩
    · obtain ⟨a, c, hx⟩ := comR_infix r _ _ _ x h
      exact ⟨a, c, by rw [← hx]; simp⟩
theorem trim_infix (l : List UInt8) : ∃ a b, l = a ++ Lib.trimS l [32, 9] ++ b := by
  unfold Lib.trimS Lib.trimLeftS Lib.trimRightS
  obtain ⟨b, hb⟩ := List.dropWhile_suffix (l := l.reverse) (([32, 9] : List UInt8).contains ·)
  have e1 : l = (l.reverse.dropWhile (([32, 9] : List UInt8).contains ·)).reverse ++ b.reverse := by
    rw [← List.reverse_append, hb, List.reverse_reverse]
  obtain ⟨a, ha⟩ := List.dropWhile_suffix (l := (l.reverse.dropWhile (([32, 9] : List UInt8).contains ·)).reverse) (([32, 9] : List UInt8).contains ·)
  exact ⟨a, b.reverse, by rw [ha]; exact e1⟩
theorem comL_mem {l x : List UInt8} (h : x ∈ comL l) : x ≠ [] ∧ Lib.trimS x [32, 9] = x ∧ ∃ a b, l = a ++ x ++ b := by
  unfold comL keepT at h
  rw [List.mem_filter, List.mem_map] at h
  obtain ⟨⟨y, hy, rfl⟩, hne⟩ := h
  refine ⟨fun h => by simp [h] at hne, trim_twice _ _, ?_⟩
  obtain ⟨a, b, h1⟩ := comR_infix _ _ _ _ _ hy
  obtain ⟨c, d, h2⟩ := trim_infix y
  rw [List.nil_append] at h1
  exact ⟨a ++ c, d ++ b, by rw [h1]; conv => lhs; rw [h2]
                            simp⟩

/-- A blank ahead makes no difference. -/
theorem trim_blank (x : List UInt8) : Lib.trimS (32 :: x) [32, 9] = Lib.trimS x [32, 9] := by
  unfold Lib.trimS Lib.trimLeftS Lib.trimRightS
  rw [List.reverse_cons, List.dropWhile_append]
  cases hd : x.reverse.dropWhile (([32, 9] : List UInt8).contains ·) with
  | nil => rfl
  | cons a t =>
    simp only [List.isEmpty_cons, Bool.false_eq_true, if_false]
    rw [List.reverse_append, List.reverse_singleton, List.singleton_append, List.dropWhile_cons]
    rfl
theorem keepT_blank : ∀ (l : List UInt8) (q e : Bool) (cur : List UInt8), keepT (comR q e (32 :: cur) l) = keepT (comR q e cur l)
  | [], q, e, cur => by rw [comR, comR, keepT_cons, keepT_cons, trim_blank]
  | b :: r, q, e, cur => by
    rw [comR, comR]
    split
    · rw [keepT_cons, keepT_cons, trim_blank]
    · rw [List.cons_append, keepT_blank r]

/-- Behind quotes, whatever stands in them, a comma separates. -/
theorem comR_escs : ∀ (s cur r : List UInt8), comR true false cur (s.flatMap escB ++ r) = comR true false (cur ++ s.flatMap escB) r
  | [], cur, r => by simp
  | b :: s, cur, r => by
    rw [List.flatMap_cons]
    unfold escB
    split
    · rename_i h
      rw [List.append_assoc, List.cons_append, List.cons_append, List.nil_append, comR, if_neg (by simp)]
      have e1 : nextQ true false 92 = true := rfl
      have e2 : nextE false 92 = true := rfl
      rw [e1, e2, comR]
      have e3 : nextQ true true b = true := by unfold nextQ; rw [if_neg (by simp)]
      have e4 : nextE true b = false := by unfold nextE; simp
      rw [e3, e4, if_neg (by simp)]
      have := comR_escs s (cur ++ [92] ++ [b]) r
      unfold escB at this
      rw [this]
      simp
    · rename_i h
      have h1 : b ≠ 34 := fun h2 => h (.inl h2)
      have h2 : b ≠ 92 := fun h2 => h (.inr h2)
      rw [List.append_assoc, List.cons_append, List.nil_append, comR]
      have e3 : nextQ true false b = true := by unfold nextQ; rw [if_neg (by simp [h1])]
      have e4 : nextE false b = false := by unfold nextE; simp [h2]
      rw [e3, e4, if_neg (by simp)]
      have := comR_escs s (cur ++ [b]) r
      unfold escB at this
      rw [this]
      simp
theorem comL_quote (s : List UInt8) : comL (quoteL s ++ [44]) = [quoteL s] := by
  unfold comL
  have e : comR false false [] (quoteL s ++ [44]) = [quoteL s, []] := by
    rw [quote_split, List.append_assoc, List.cons_append, comR, if_neg (by simp)]
    have e1 : nextQ false false 34 = true := rfl
    have e2 : nextE false 34 = false := rfl
    rw [e1, e2, comR_escs, List.singleton_append, comR, if_neg (by simp)]
    have e3 : nextQ true false 34 = false := rfl
    rw [e3, e2, comR, if_pos ⟨rfl, rfl⟩, comR]
    simp
  rw [e, keepT_cons, keepT_cons, keepT_nil, trim_quote, if_neg (by simp [quoteL])]
  rfl
end Go.Proofs.YtgebkpnieailbaaGreatDoor

/-
  Strings: plain (a string's word, and the text of what may not be there).
-/
namespace Go.Proofs.YtgebkpnieailbaaGreatDoor
set_option linter.unusedVariables false
open Go.RowKit

/-- A string's word. -/
def putStr (l : List UInt8) : List UInt8 :=
  if hasL 0 l = true ∨ 400 < l.length then [] else
  if l.length ≤ 60 ∧ plainAll l = true then quoteL l else [123] ++ Lib.itoa (l.length : Int) ++ [125, 13, 10] ++ l
def nilL : List UInt8 := [78, 73, 76]
def nilA : ByteArray := ⟨#[78, 73, 76]⟩
/-- The text of what may not be there. -/
def nstr (there : Bool) (l : List UInt8) : List UInt8 := if there then putStr l else nilL
/-- How long a number's text may be. -/
theorem itoa_len (n : Nat) (h : n ≤ 67108864) : (Lib.itoa (n : Int)).length ≤ 21 := Lib.itoa_length_le (n : Int) (by omega) (by omega)

/-- What may be told by its length. -/
def litOk (l : List UInt8) : Bool := decide (l.length ≤ 400) && !hasL 0 l
end Go.Proofs.YtgebkpnieailbaaGreatDoor

/-
  Strings' texts: how long they are; plain.
-/
namespace Go.Proofs.YtgebkpnieailbaaGreatDoor
set_option linter.unusedVariables false
open Go.RowKit

theorem putStr_len (l : List UInt8) (h : l.length ≤ 67108864) : (putStr l).length ≤ 2 * l.length + 30 := by
  unfold putStr
  split
  · simp
  · split
    · have := quote_len l
      omega
    · have := itoa_len l.length h
      simp
      omega
theorem nstr_len (b : Bool) (l : List UInt8) (h : l.length ≤ 67108864) : (nstr b l).length ≤ 2 * l.length + 30 := by
  unfold nstr
  split
  · exact putStr_len l h
  · simp [nilL]
end Go.Proofs.YtgebkpnieailbaaGreatDoor

/-
  Addresses: plain (ReadAddrs, AddrText).
-/
namespace Go.Proofs.YtgebkpnieailbaaGreatDoor
set_option linter.unusedVariables false
open Go.RowKit

/-- The last place of a byte; -1 where there is none. -/
def lastI (b : UInt8) : List UInt8 → Int
  | [] => -1
  | x :: r => if 0 ≤ lastI b r then lastI b r + 1 else if x = b then 0 else -1
theorem lastI_spec (b : UInt8) : ∀ (l : List UInt8), (lastI b l = -1 ∧ ∀ j : Nat, l[j]? ≠ some b) ∨ ∃ i : Nat, lastI b l = i ∧ i < l.length ∧ l[i]? = some b ∧ ∀ j : Nat, i < j → l[j]? ≠ some b
  | [] => .inl ⟨rfl, fun j => by simp⟩
  | x :: r => by
    rcases lastI_spec b r with ⟨h1, h2⟩ | ⟨i, h1, h2, h3, h4⟩
    · by_cases hx : x = b
      · refine .inr ⟨0, by simp [lastI, h1, hx], by simp, by simp [hx], fun j hj => ?_⟩
        obtain ⟨k, rfl⟩ : ∃ k, j = k + 1 := ⟨j - 1, by omega⟩
        rw [List.getElem?_cons_succ]
        exact h2 k
      · refine .inl ⟨by simp [lastI, h1, hx], fun j => ?_⟩
        cases j with
        | zero => simpa using hx
        | succ k => rw [List.getElem?_cons_succ]; exact h2 k
    · refine .inr ⟨i + 1, by rw [lastI, if_pos (by omega), h1]; omega, by simp; omega, by rw [List.getElem?_cons_succ]; exact h3, fun j hj => ?_⟩
      obtain ⟨k, rfl⟩ : ∃ k, j = k + 1 := ⟨j - 1, by omega⟩
      rw [List.getElem?_cons_succ]
      exact h4 k (by omega)
theorem lastI_at (b : UInt8) (l : List UInt8) (i : Nat) (h1 : l[i]? = some b) (h2 : ∀ j : Nat, i < j → l[j]? ≠ some b) : lastI b l = i := by
  rcases lastI_spec b l with ⟨_, h4⟩ | ⟨k, h3, _, h5, h6⟩
  · exact absurd h1 (h4 i)
  · rw [h3]
    rcases Nat.lt_trichotomy i k with h | h | h
    · exact absurd h5 (h2 k h)
    · rw [h]
    · exact absurd h1 (h6 i h)
theorem lastI_none (b : UInt8) (l : List UInt8) (h : ∀ j : Nat, l[j]? ≠ some b) : lastI b l = -1 := by
  rcases lastI_spec b l with ⟨h3, _⟩ | ⟨k, _, _, h5, _⟩
  · exact h3
  · exact absurd h5 (h k)
theorem lastI_bounds (b : UInt8) (l : List UInt8) : -1 ≤ lastI b l ∧ lastI b l < l.length := by
  rcases lastI_spec b l with ⟨h, _⟩ | ⟨i, h, h2, _⟩
  · omega
  · omega

theorem lastI_take (b : UInt8) (l : List UInt8) (k : Nat) (h : k < l.length) : lastI b (l.take (k + 1)) = if l[k] = b then (k : Int) else lastI b (l.take k) := by
  have hat : ∀ j, (l.take (k + 1))[j]? = if j < k + 1 then l[j]? else none := fun j => List.getElem?_take ..
  have hat0 : ∀ j, (l.take k)[j]? = if j < k then l[j]? else none := fun j => List.getElem?_take ..
  split
  · rename_i hx
    refine lastI_at b _ k (by rw [hat, if_pos (by omega), List.getElem?_eq_getElem h, hx]) (fun j hj => ?_)
    rw [hat, if_neg (by omega)]
    exact fun h => by cases h
  · rename_i hx
    rcases lastI_spec b (l.take k) with ⟨h1, h2⟩ | ⟨i, h1, h2, h3, h4⟩
    · rw [h1]
      refine lastI_none b _ (fun j hj => ?_)
      rw [hat] at hj
      split at hj
      · by_cases hjk : j = k
        · rw [hjk, List.getElem?_eq_getElem h] at hj
          exact hx (Option.some.inj hj)
        · have := h2 j
          rw [hat0, if_pos (by omega)] at this
          exact this hj
      · cases hj
    · rw [h1]
      have hik : i < k := by
        rw [List.length_take] at h2
        omega
      rw [hat0, if_pos hik] at h3
      refine lastI_at b _ i (by rw [hat, if_pos (by omega)]; exact h3) (fun j hj hj2 => ?_)
      rw [hat] at hj2
      split at hj2
      · by_cases hjk : j = k
        · rw [hjk, List.getElem?_eq_getElem h] at hj2
          exact hx (Option.some.inj hj2)
        · have := h4 j hj
          rw [hat0, if_pos (by omega)] at this
          exact this hj2
      · cases hj2

structure Ad where
  name : List UInt8
  box : List UInt8
  host : List UInt8
/-- A byte of an address. -/
def specB (b : UInt8) : Bool := nameB b && (!(b == 60) && !(b == 62))
/-- The name and the address of a part. -/
def twoOf (p : List UInt8) : List UInt8 × List UInt8 :=
  if 0 ≤ lastI 60 p ∧ p.getD (p.length - 1) 0 = 62 then (unqL (p.take (lastI 60 p).toNat), (p.drop ((lastI 60 p).toNat + 1)).take (p.length - 1 - ((lastI 60 p).toNat + 1))) else ([], p)
def boxOf (nm m : List UInt8) : Option Ad :=
  if m.all specB = true ∧ 0 < lastI 64 m ∧ lastI 64 m < (m.length : Int) - 1 then some ⟨nm, m.take (lastI 64 m).toNat, m.drop ((lastI 64 m).toNat + 1)⟩ else none
def addrOf (p : List UInt8) : Option Ad := boxOf (twoOf p).1 (twoOf p).2
def addrsL (s : List UInt8) : List Ad := (comL s).filterMap addrOf

def adCells (l : List Ad) : List Value := l.flatMap fun x => [.string (mkB x.name), .string (mkB x.box), .string (mkB x.host)]
theorem adCells_len (l : List Ad) : (adCells l).length = l.length * 3 := by
  induction l with
  | nil => rfl
  | cons a r ih => simp [adCells] at ih ⊢; omega
theorem adCells_append (a b : List Ad) : adCells (a ++ b) = adCells a ++ adCells b := by simp [adCells]
theorem adCells_one (l : List Ad) : ∀ u ∈ adCells l, u.oneCell' = true := by
  intro u hu
  obtain ⟨x, hx, hy⟩ := List.mem_flatMap.1 hu
  simp only [List.mem_cons, List.not_mem_nil, or_false] at hy
  rcases hy with rfl | rfl | rfl <;> rfl
theorem adCells_at : ∀ (l : List Ad) (k : Nat) (h : k < l.length), (adCells l)[k * 3]? = some (.string (mkB l[k].name)) ∧ (adCells l)[k * 3 + 1]? = some (.string (mkB l[k].box)) ∧ (adCells l)[k * 3 + 2]? = some (.string (mkB l[k].host))
  | [], k, h => absurd h (by simp)
  | a :: r, 0, h => ⟨rfl, rfl, rfl⟩
  | a :: r, k + 1, h => by
    have := adCells_at r k (by simpa using h)
    rw [show (k + 1) * 3 = k * 3 + 1 + 1 + 1 by omega, show adCells (a :: r) = .string (mkB a.name) :: .string (mkB a.box) :: .string (mkB a.host) :: adCells r from rfl]
    simpa using this

theorem twoOf_len (p : List UInt8) : (twoOf p).1.length + (twoOf p).2.length ≤ p.length := by
  unfold twoOf
  have hb := lastI_bounds 60 p
  split
  · have := unqL_len (p.take (lastI 60 p).toNat)
    simp at this ⊢
    omega
  · simp
/-- How long an address is. -/
def adSize (a : Ad) : Nat := a.name.length + a.box.length + a.host.length
theorem boxOf_some {nm m : List UInt8} {a : Ad} (h : boxOf nm m = some a) : a.name = nm ∧ a.box ≠ [] ∧ a.host ≠ [] ∧ hasL 64 a.host = false ∧ a.box.length + a.host.length ≤ m.length := by
  unfold boxOf at h
  split at h
  · rename_i h0
    obtain ⟨_, h1, h2⟩ := h0
    have e := Option.some.inj h
    subst e
    have hs := lastI_spec 64 m
    refine ⟨rfl, ?_, ?_, ?_, ?_⟩
    · intro h3
      have := congrArg List.length h3
      rw [List.length_take, List.length_nil] at this
      omega
    · intro h3
      have := congrArg List.length h3
      rw [List.length_drop, List.length_nil] at this
      omega
    · rcases hs with ⟨h3, _⟩ | ⟨i, h3, h4, h5, h6⟩
      · omega
      · rw [h3]
        unfold hasL
        rw [List.any_eq_false]
        intro x hx
        obtain ⟨j, hj, rfl⟩ := List.getElem_of_mem hx
        have := h6 (i + 1 + j) (by omega)
        rw [beq_iff_eq]
        intro h7
        apply this
        rw [← h7]
        simp
    · simp
      omega
  · cases h
theorem addrOf_some {p : List UInt8} {a : Ad} (h : addrOf p = some a) : a.box ≠ [] ∧ a.host ≠ [] ∧ hasL 64 a.host = false ∧ adSize a ≤ p.length := by
  have h1 := boxOf_some h
  have h2 := twoOf_len p
  refine ⟨h1.2.1, h1.2.2.1, h1.2.2.2.1, ?_⟩
  unfold adSize
  rw [h1.1]
  omega
theorem filterMap_len (l : List (List UInt8)) : (l.filterMap addrOf).length ≤ l.length := List.length_filterMap_le _ _
theorem addrs_size : ∀ (l : List (List UInt8)), ((l.filterMap addrOf).map adSize).foldr (· + ·) 0 ≤ total l
  | [] => by simp [total]
  | p :: r => by
    have := addrs_size r
    rw [total_cons, List.filterMap_cons]
    cases h : addrOf p with
    | none => simp only; omega
    | some a =>
      have h2 := (addrOf_some h).2.2.2
      simp only [List.map_cons, List.foldr_cons]
      omega

/-- The bytes of 'Some One <some@one>'. -/
def someL : List UInt8 := [83, 111, 109, 101, 32, 79, 110, 101, 32, 60, 115, 111, 109, 101, 64, 111, 110, 101, 62]
def someAd : Ad := ⟨[83, 111, 109, 101, 32, 79, 110, 101], [115, 111, 109, 101], [111, 110, 101]⟩
theorem addrs_more (s : List UInt8) : addrsL (someL ++ [44, 32] ++ s) = someAd :: addrsL s := by
  unfold addrsL comL
  have e : comR false false [] (someL ++ [44, 32] ++ s) = someL :: comR false false [32] s := by
    simp [someL, comR, nextQ, nextE]
  have e2 : Lib.trimS someL [32, 9] = someL := by decide
  have e3 : addrOf someL = some someAd := by kernel_rfl
  rw [e, keepT_cons, e2, if_neg (by simp [someL]), keepT_blank, List.singleton_append, List.filterMap_cons, e3]

/-- What an address is told as. -/
def addrT (a : Ad) : List UInt8 := 40 :: nstr (!a.name.isEmpty) a.name ++ [32, 78, 73, 76, 32] ++ putStr a.box ++ [32] ++ putStr a.host ++ [41]
def addrTs (l : List Ad) : List UInt8 := if l = [] then nilL else 40 :: l.flatMap addrT ++ [41]
theorem addrTs_one (a : Ad) : (addrTs [a]).length = (addrT a).length + 2 := by
  unfold addrTs
  rw [if_neg (by simp)]
  simp
def adSum : List Ad → Nat
  | [] => 0
  | a :: r => ((addrTs [a]).length - 2) + adSum r
theorem adSum_append (a b : List Ad) : adSum (a ++ b) = adSum a + adSum b := by
  induction a with
  | nil => simp [adSum]
  | cons x r ih => rw [List.cons_append, adSum, adSum, ih]; omega
theorem adSum_flat : ∀ (l : List Ad), (l.flatMap addrT).length = adSum l
  | [] => rfl
  | a :: r => by
    rw [List.flatMap_cons, List.length_append, adSum_flat r, adSum, addrTs_one]
    omega
theorem addrTs_len (l : List Ad) (h : l ≠ []) : (addrTs l).length = 2 + adSum l := by
  unfold addrTs
  rw [if_neg h, List.length_append, List.length_cons, adSum_flat]
  simp
  omega
theorem addrT_len (a : Ad) (h : adSize a ≤ 67108864) : (addrT a).length ≤ 2 * adSize a + 100 := by
  unfold adSize at h ⊢
  have h1 := nstr_len (!a.name.isEmpty) a.name (by omega)
  have h2 := putStr_len a.box (by omega)
  have h3 := putStr_len a.host (by omega)
  unfold addrT
  simp only [List.length_append, List.length_cons, List.length_nil]
  omega
def adSizes (l : List Ad) : Nat := (l.map adSize).foldr (· + ·) 0
theorem adSizes_cons (a : Ad) (l : List Ad) : adSizes (a :: l) = adSize a + adSizes l := rfl
theorem adSizes_append (a b : List Ad) : adSizes (a ++ b) = adSizes a + adSizes b := by
  induction a with
  | nil => simp [adSizes]
  | cons x r ih => rw [List.cons_append, adSizes_cons, adSizes_cons, ih]; omega
theorem adSizes_mem {l : List Ad} {x : Ad} (h : x ∈ l) : adSize x ≤ adSizes l := by
  induction l with
  | nil => cases h
  | cons a r ih =>
    rw [adSizes_cons]
    rcases List.mem_cons.1 h with rfl | h
    · omega
    · have := ih h; omega
theorem flat_len : ∀ (l : List Ad), adSizes l ≤ 67108864 → (l.flatMap addrT).length ≤ 2 * adSizes l + 100 * l.length
  | [], _ => by simp [adSizes]
  | a :: r, h => by
    rw [adSizes_cons] at h
    have h1 := addrT_len a (by omega)
    have h2 := flat_len r (by omega)
    rw [List.flatMap_cons, List.length_append, adSizes_cons, List.length_cons]
    omega
end Go.Proofs.YtgebkpnieailbaaGreatDoor

/-
  A slice at which fields lie.
-/
namespace Go.Proofs.YtgebkpnieailbaaGreatDoor
set_option linter.unusedVariables false
open Go.RowKit

theorem flCells_at : ∀ (l : List Fl) (k : Nat) (h : k < l.length), (flCells l)[k * 2]? = some (.string (mkB l[k].name)) ∧ (flCells l)[k * 2 + 1]? = some (.string (mkB l[k].body))
  | [], k, h => absurd h (by simp)
  | a :: r, 0, h => ⟨rfl, rfl⟩
  | a :: r, k + 1, h => by
    have := flCells_at r k (by simpa using h)
    rw [show (k + 1) * 2 = k * 2 + 1 + 1 by omega, show flCells (a :: r) = .string (mkB a.name) :: .string (mkB a.body) :: flCells r from rfl]
    simpa using this
/-- A slice at which fields lie. -/
def FlsAt (w : World) (v : Value) (l : List Fl) : Prop :=
  (l = [] ∧ ∃ p cap, v = .slice p 0 cap) ∨ ∃ g off cap, v = .slice (some ⟨g, off, none⟩) l.length cap ∧ g < w.heap.size ∧ ∀ k, (h : k < l.length) → w.cell? ⟨g, off + k * 2, none⟩ = some (.string (mkB l[k].name)) ∧ w.cell? ⟨g, off + k * 2 + 1, none⟩ = some (.string (mkB l[k].body))
theorem fls_of_row {w : World} {B : Nat} {e : TypeId} {v : Value} {l : List Fl} (h : w.ownsRow B e 2 v l.length (flCells l)) : FlsAt w v l := by
  have h2 := h
  rcases h with ⟨h1, ⟨rfl, h0⟩ | ⟨g, cap, cur, rfl, hr⟩⟩
  · exact .inl ⟨List.eq_nil_of_length_eq_zero h0, _, _, rfl⟩
  · refine .inr ⟨g, 0, cap, rfl, (h2.lt g rfl).2, fun k hk => ?_⟩
    rw [Nat.zero_add, h2.cellAt (k * 2) (by omega), h2.cellAt (k * 2 + 1) (by omega)]
    exact flCells_at l k hk
theorem FlsAt.later {w w' : World} {v : Value} {l : List Fl} {B : Nat} (h : FlsAt w v l) (hb : Below B w w') (hB : w.heap.size ≤ B) : FlsAt w' v l := by
  rcases h with h | ⟨g, off, cap, h1, h2, h3⟩
  · exact .inl h
  · refine .inr ⟨g, off, cap, h1, Nat.lt_of_lt_of_le h2 hb.size, fun k hk => ?_⟩
    rw [hb.cell (p := ⟨g, off + k * 2, none⟩) (by show g < B; omega), hb.cell (p := ⟨g, off + k * 2 + 1, none⟩) (by show g < B; omega)]
    exact h3 k hk
theorem FlsAt.slice {w : World} {v : Value} {l : List Fl} (h : FlsAt w v l) : ∃ p cap, v = .slice p l.length cap := by
  rcases h with ⟨rfl, p, cap, rfl⟩ | ⟨g, off, cap, rfl, _⟩
  · exact ⟨p, cap, rfl⟩
  · exact ⟨_, cap, rfl⟩
end Go.Proofs.YtgebkpnieailbaaGreatDoor

/-
  Fields put together: plain.
-/
namespace Go.Proofs.YtgebkpnieailbaaGreatDoor
set_option linter.unusedVariables false
open Go.RowKit

def putF (f : Fl) : List UInt8 := f.name ++ [58, 32] ++ f.body ++ [13, 10]
def putL (l : List Fl) : List UInt8 := l.flatMap putF
theorem putL_cons (f : Fl) (l : List Fl) : putL (f :: l) = putF f ++ putL l := rfl
theorem putL_append (a b : List Fl) : putL (a ++ b) = putL a ++ putL b := by simp [putL]
theorem putL_snoc (a : List Fl) (f : Fl) : putL (a ++ [f]) = putL a ++ putF f := by simp [putL]
theorem putF_len (f : Fl) : (putF f).length = f.name.length + f.body.length + 4 := by simp [putF]; omega
theorem putL_take (l : List Fl) (k : Nat) (h : k < l.length) : putL (l.take (k + 1)) = putL (l.take k) ++ putF l[k] := by
  rw [List.take_add_one, List.getElem?_eq_getElem h]
  exact putL_snoc _ _
theorem putL_take_le (l : List Fl) (k : Nat) : (putL (l.take k)).length ≤ (putL l).length := by
  have : putL l = putL (l.take k) ++ putL (l.drop k) := by rw [← putL_append, List.take_append_drop]
  rw [this, List.length_append]
  omega
theorem putF_bytes (f : Fl) : mkB f.name ++ ⟨#[58, 32]⟩ ++ mkB f.body ++ ⟨#[13, 10]⟩ = mkB (putF f) := by
  apply ByteArray.ext
  simp [mkB, putF]
end Go.Proofs.YtgebkpnieailbaaGreatDoor

/-
  Fields: how long they are; plain.
-/
namespace Go.Proofs.YtgebkpnieailbaaGreatDoor
set_option linter.unusedVariables false
open Go.RowKit

theorem trimS_le (t : List UInt8) : (Lib.trimS t [32, 9]).length ≤ t.length := by
  unfold Lib.trimS Lib.trimLeftS Lib.trimRightS
  refine Nat.le_trans ((List.dropWhile_sublist _).length_le) ?_
  rw [List.length_reverse]
  refine Nat.le_trans ((List.dropWhile_sublist _).length_le) ?_
  rw [List.length_reverse]
  exact Nat.le_refl _
theorem fieldOf_len {t : List UInt8} {f : Fl} (h : fieldOf t = some f) : f.name.length + f.body.length ≤ t.length := by
  unfold fieldOf at h
  split at h
  · cases h
  · split at h
    · obtain rfl := Option.some.inj h
      have h1 := trimS_le (t.drop ((Lib.index t [58]).toNat + 1))
      dsimp only
      rw [List.length_take]
      rw [List.length_drop] at h1
      omega
    · cases h
theorem putL_filter : ∀ (T : List (List UInt8)), (putL (T.filterMap fieldOf)).length ≤ total T + 4 * T.length ∧ (T.filterMap fieldOf).length ≤ T.length
  | [] => by simp [putL, total]
  | t :: r => by
    obtain ⟨h1, h2⟩ := putL_filter r
    rw [total_cons, List.filterMap_cons]
    cases hf : fieldOf t with
    | none =>
      simp only [List.length_cons]
      omega
    | some f =>
      have := fieldOf_len hf
      simp only [putL_cons, List.length_append, putF_len, List.length_cons]
      omega
theorem joinT_total : ∀ (ls t : List (List UInt8)), total (joinT t ls) = total t + total ls
  | [], t => by simp [joinT, total]
  | l :: r, t => by
    rw [joinT, joinT_total r, total_addLine, total_cons]
    omega
theorem joinT_length : ∀ (ls t : List (List UInt8)), (joinT t ls).length ≤ t.length + ls.length
  | [], t => by simp [joinT]
  | l :: r, t => by
    have h1 := joinT_length r (addLine t l)
    have h2 := addLine_len t l
    rw [joinT, List.length_cons]
    omega
theorem fieldsL_bounds (s : List UInt8) : (putL (fieldsL s)).length ≤ 5 * s.length + 4 ∧ (fieldsL s).length ≤ s.length + 1 := by
  obtain ⟨h1, h2⟩ := putL_filter (joinT [] (linesA [] s))
  have h3 := joinT_total (linesA [] s) []
  have h4 := joinT_length (linesA [] s) []
  obtain ⟨h5, h6⟩ := total_lines s.length [] s (Nat.le_refl _)
  unfold fieldsL
  simp only [total, List.map_nil, List.foldr_nil, List.length_nil, Nat.zero_add] at h3 h4 h5 h6
  simp only [total] at h1
  omega
theorem putL_mem {l : List Fl} {f : Fl} (h : f ∈ l) : f.name.length + f.body.length ≤ (putL l).length := by
  induction l with
  | nil => cases h
  | cons a r ih =>
    rw [putL_cons, List.length_append, putF_len]
    rcases List.mem_cons.1 h with rfl | h
    · omega
    · have := ih h; omega
end Go.Proofs.YtgebkpnieailbaaGreatDoor

/-
  The walk of spec.l01In.
-/
namespace Go.Proofs.YtgebkpnieailbaaGreatDoor
set_option linter.unusedVariables false
open Go.RowKit

set_option maxHeartbeats 400000 in
theorem in_yes (x a b : Int) (w : World) (h1 : a ≤ x) (h2 : x ≤ b) :
    Calls Tryz.prog 117 #[.int .i64 x, .int .i64 a, .int .i64 b] w fun e w' => e = .returned (.bool true) ∧ w' = w := by
  go_enter Tryz.func117, Tryz.ntmps117
  go_wp2
  go_ret
  exact ⟨rfl, rfl⟩
set_option maxHeartbeats 400000 in
theorem in_no (x a b : Int) (w : World) (h : x < a ∨ b < x) :
    Calls Tryz.prog 117 #[.int .i64 x, .int .i64 a, .int .i64 b] w fun e w' => e = .returned (.bool false) ∧ w' = w := by
  by_cases h1 : a ≤ x
  · have h2 : b < x := by omega
    have h3 : decide (x ≤ b) = false := by simp; omega
    go_enter Tryz.func117, Tryz.ntmps117
    go_wp2
    go_ret
    exact ⟨rfl, rfl⟩
  · have h2 : x < a := by omega
    clear h
    go_enter Tryz.func117, Tryz.ntmps117
    go_wp2
    go_ret
    exact ⟨rfl, rfl⟩
end Go.Proofs.YtgebkpnieailbaaGreatDoor

/-
  The walks of impl.Upper, spec.Upper, and of Same: plain lists of bytes.
-/
namespace Go.Proofs.YtgebkpnieailbaaGreatDoor
set_option linter.unusedVariables false
open Go.RowKit

def upN (n : Nat) : Nat := if 97 ≤ n ∧ n ≤ 122 then n - 32 else n
def tabUpTo (k : Nat) : Array Value := Array.ofFn (n := 256) fun i => if i.val < k then .int .u8 i.val else .int .u8 0
def tabUp2 (k : Nat) : Array Value := Array.ofFn (n := 256) fun i => if 97 ≤ i.val ∧ i.val < k then .int .u8 (i.val - 32 : Nat) else .int .u8 i.val
theorem tabUpTo_size (k : Nat) : (tabUpTo k).size = 256 := by simp [tabUpTo]
theorem tabUp2_size (k : Nat) : (tabUp2 k).size = 256 := by simp [tabUp2]
theorem tabUpTo_get (k i : Nat) : (tabUpTo k)[i]? = if i < 256 then some (if i < k then .int .u8 i else .int .u8 0) else none := by
  simp [tabUpTo, Array.getElem?_ofFn]
theorem tabUp2_get (k i : Nat) : (tabUp2 k)[i]? = if i < 256 then some (if 97 ≤ i ∧ i < k then .int .u8 (i - 32 : Nat) else .int .u8 i) else none := by
  simp [tabUp2, Array.getElem?_ofFn]
theorem tabUpTo_set (k : Nat) (hk : k < 256) : (tabUpTo k).setIfInBounds k (.int .u8 k) = tabUpTo (k + 1) := by
  apply Array.ext_getElem?
  intro i
  rw [Array.getElem?_setIfInBounds, tabUpTo_get, tabUpTo_get, tabUpTo_size]
  by_cases e : k = i
  · subst e; simp [hk]
  · simp only [if_neg e]
    have : (i < k + 1) ↔ i < k := by omega
    simp only [this]
theorem tabUp2_set (k : Nat) (h97 : 97 ≤ k) (hk : k < 256) : (tabUp2 k).setIfInBounds k (.int .u8 (k - 32 : Nat)) = tabUp2 (k + 1) := by
  apply Array.ext_getElem?
  intro i
  rw [Array.getElem?_setIfInBounds, tabUp2_get, tabUp2_get, tabUp2_size]
  by_cases e : k = i
  · subst e; simp [hk, h97]
  · simp only [if_neg e]
    have : (97 ≤ i ∧ i < k + 1) ↔ (97 ≤ i ∧ i < k) := by omega
    simp only [this]
theorem tabUpTo_end : tabUpTo 256 = tabUp2 97 := by
  apply Array.ext_getElem?
  intro i
  rw [tabUpTo_get, tabUp2_get]
  by_cases h : i < 256
  · rw [if_pos h, if_pos h, if_pos h, if_neg (by omega)]
  · rw [if_neg h, if_neg h]
theorem tabUp2_one (k : Nat) : (tabUp2 k).all (·.oneCell') = true := by
  rw [Array.all_eq_true]
  intro i hi
  simp only [tabUp2, Array.getElem_ofFn]
  split <;> rfl
theorem belowRow {B : Nat} {a w : World} (h : Below B a w) {g : Nat} (hg : B ≤ g) (cs : Array Value) : Below B a (w.setRow g cs) :=
  h.trans ⟨rfl, rfl, rfl, by simp [World.setRow], fun k hk => by
    simp only [World.setRow, Array.getElem?_modify]
    rw [if_neg (by omega)]⟩
def z256 : Array Value := Array.replicate 256 (.int .u8 0)
theorem z256_eq : z256 = tabUpTo 0 := by
  apply Array.ext_getElem?
  intro i
  rw [tabUpTo_get]
  simp [z256, Array.getElem?_replicate]

theorem info256 : (Tryz.prog.info? 181).map (fun i => (i.zero, i.size)) = some (some (.agg z256), 256) := by kernel_rfl

set_option maxRecDepth 100000 in
set_option maxHeartbeats 400000 in
theorem upperTable_any (w : World) :
    Calls Tryz.prog 135 #[] w fun e w' => e = .returned (.agg (tabUp2 123)) ∧ Below w.heap.size w w' := by
  obtain ⟨hz, hs⟩ := zero_of_info info256
  rw [z256_eq] at hz
  obtain ⟨C0, HC0⟩ : ∃ C, Hid (C = tabUpTo 0) := ⟨_, Lib.hid rfl⟩
  rw [← HC0.out] at hz
  go_enter Tryz.func135, Tryz.ntmps135
  go_wp2
  go_loopw [4] (fun i wr => ∃ (k : Nat) (C : Array Value), k ≤ 256 ∧ i = .int .i64 k ∧ wr = (w.alloc (Obj.cells C0 181)).alloc (Obj.cells C 181) ∧ Hid (C = tabUpTo k)) (fun i _ => 256 - (intOf i).toNat)
  case atStart => exact ⟨0, C0, Nat.zero_le _, rfl, rfl, HC0⟩
  case round =>
    obtain ⟨k, C, hk, rfl, rfl, HC⟩ := hrel
    by_cases hlt : k < 256
    · have hget : C[k]? = some (.int .u8 0) := by rw [HC.out, tabUpTo_get, if_pos hlt, if_neg (by omega)]
      go_wp2
      go_roundw
      case rel => exact ⟨k + 1, _, by omega, by go_num, rfl, Lib.hid (by rw [← tabUpTo_set k hlt, HC.out])⟩
      case measure => simp [intOf]; omega
    · obtain rfl : k = 256 := by omega
      go_wp2
      clear hlt
      go_loopw [3] (fun i wr => ∃ (c : Nat) (D : Array Value), 97 ≤ c ∧ c ≤ 123 ∧ i = .int .i32 c ∧ wr = (w.alloc (Obj.cells C0 181)).alloc (Obj.cells D 181) ∧ Hid (D = tabUp2 c)) (fun i _ => 123 - (intOf i).toNat)
      case atStart => exact ⟨97, C, by omega, by omega, rfl, rfl, Lib.hid (by rw [HC.out, tabUpTo_end])⟩
      case round =>
        obtain ⟨c, D, h97, hc, rfl, rfl, HD⟩ := hrel
        by_cases hlt : c ≤ 122
        · have hget : D[c]? = some (.int .u8 c) := by rw [HD.out, tabUp2_get, if_pos (by omega), if_neg (by omega)]
          go_wp2
          go_roundw
          case rel => exact ⟨c + 1, _, by omega, by omega, by go_num, rfl, Lib.hid (by rw [← tabUp2_set c h97 (by omega), HD.out]; congr 2; omega)⟩
          case measure => simp [intOf]; omega
        · obtain rfl : c = 123 := by omega
          have hg1 : ((w.alloc (Obj.cells C0 181)).alloc (Obj.cells D 181)).heap[w.heap.size + 1]? = some (.cells D 181 (0, 0)) := heap_alloc2_new _ _ _
          have hg0 : ((w.alloc (Obj.cells C0 181)).alloc (Obj.cells D 181)).heap[w.heap.size]? = some (.cells C0 181 (0, 0)) := heap_alloc2_old _ _ _
          have hD : D.size = 256 := by rw [HD.out, tabUp2_size]
          have hC : C0.size = 256 := by rw [HC0.out, tabUpTo_size]
          have hall : D.all (·.oneCell') = true := by rw [HD.out]; exact tabUp2_one _
          have Hs : (Tryz.prog.info? 181).map (·.size) = some D.size := by rw [hs, hD]
          have Hcs : C0.size = D.size := by rw [hC, hD]
          have HG1 := Lib.hid hg1
          have HG0 := Lib.hid hg0
          have HS := Lib.hid Hs
          have HCS := Lib.hid Hcs
          have HALL := Lib.hid hall
          clear hg1 hg0 hD hC hall Hs Hcs
          go_wp2_with (first | (refine wpList_load_row rfl 181 _ rfl (w.heap.size + 1) rfl 181 D (0, 0) _ HG1.out Tryz.underlying181 rfl HS.out ?_) | (refine wpList_store_row rfl 181 _ _ rfl w.heap.size D rfl rfl 181 C0 HG0.out HS.out HCS.out HALL.out ?_))
          refine bodyPost_ret_by (results_cell_row rfl _ _ w.heap.size 181 D (0, 0) _ rfl (setRow_heap _ _ _ _ _ _ HG0.out) Tryz.underlying181 rfl HS.out) rfl ⟨by rw [HD.out], ?_⟩
          exact belowRow (((Below.refl _ _).alloc (Nat.le_refl _) _).alloc (by simp) _) (Nat.le_refl _) _

def upB (b : UInt8) : UInt8 := if 97 ≤ b.toNat ∧ b.toNat ≤ 122 then b - 32 else b
def upS (l : List UInt8) : List UInt8 := l.map upB
def mixUp (l : List UInt8) (k : Nat) : List UInt8 := (l.take k).map upB ++ l.drop k
theorem mixUp_len (l : List UInt8) (k : Nat) : (mixUp l k).length = l.length := by
  simp [mixUp]; omega
theorem mixUp_zero (l : List UInt8) : mixUp l 0 = l := by simp [mixUp]
theorem mixUp_all (l : List UInt8) (k : Nat) (h : l.length ≤ k) : mixUp l k = upS l := by
  simp [mixUp, upS, List.take_of_length_le h, List.drop_eq_nil_of_le h]
theorem mixUp_at (l : List UInt8) (k : Nat) (h : k < l.length) : (mixUp l k).getD k 0 = l.getD k 0 := by
  simp [mixUp, List.getD, List.getElem?_append, show min k l.length = k by omega]
theorem mixUp_set (l : List UInt8) (k : Nat) (h : k < l.length) : (mixUp l k).set k (upB (l.getD k 0)) = mixUp l (k + 1) := by
  apply List.ext_getElem?
  intro i
  simp only [mixUp, List.getElem?_set, List.getElem?_append, List.length_map, List.length_take, List.getElem?_map, List.getElem?_take, List.getElem?_drop, List.length_append, List.length_drop, List.getD]
  rw [show min k l.length = k by omega, show min (k + 1) l.length = k + 1 by omega]
  by_cases e : k = i
  · subst e
    rw [if_pos rfl, if_pos (by omega), if_pos (by omega), if_pos (by omega), List.getElem?_eq_getElem h]
    rfl
  · rw [if_neg e]
    by_cases h1 : i < k
    · rw [if_pos h1, if_pos h1, if_pos (by omega), if_pos (by omega)]
    · rw [if_neg h1, if_neg (by omega)]
      congr 1
      omega
theorem mixUp_keep (l : List UInt8) (k : Nat) (h : k < l.length) (hb : upB (l.getD k 0) = l.getD k 0) : mixUp l k = mixUp l (k + 1) := by
  rw [← mixUp_set l k h, hb, ← mixUp_at l k h]
  apply List.ext_getElem?
  intro i
  rw [List.getElem?_set]
  by_cases e : k = i
  · subst e
    have := mixUp_len l k
    rw [if_pos rfl, if_pos (by omega), List.getD, List.getElem?_eq_getElem (by omega)]
    rfl
  · rw [if_neg e]
theorem upB_nat (b : UInt8) : (upB b).toNat = if 97 ≤ b.toNat ∧ b.toNat ≤ 122 then b.toNat - 32 else b.toNat := by
  unfold upB
  split
  · rename_i h
    rw [UInt8.toNat_sub_of_le _ _ (by rw [UInt8.le_iff_toNat_le]; simp; omega)]
    rfl
  · rfl

set_option maxRecDepth 100000 in
set_option maxHeartbeats 400000 in
theorem specUpper_any (s : ByteArray) (w : World) (hs : s.size ≤ maxLen) :
    Calls Tryz.prog 114 #[.string s] w fun e w' => e = .returned (.string ⟨(upS s.data.toList).toArray⟩) ∧ Below w.heap.size w w' := by
  unfold maxLen at hs
  obtain ⟨W, cap, hconv, hbuf, hbel, hsz⟩ := conv_bytes (P := Tryz.prog) w 9 22 5 s Tryz.underlying9 Tryz.underlying22 Tryz.underlying5
  have HS := Lib.hid hsz
  clear hsz
  go_enter Tryz.func114, Tryz.ntmps114
  go_wp2
  go_loopw [4] (fun i wr => ∃ k : Nat, k ≤ s.size ∧ i = .int .i64 k ∧ Buf wr w.heap.size 5 (mixUp s.data.toList k) ∧ Below w.heap.size w wr) (fun i _ => s.size - (intOf i).toNat)
  case atStart => exact ⟨0, Nat.zero_le _, rfl, by rw [mixUp_zero]; exact hbuf, hbel⟩
  case round =>
    obtain ⟨k, hk, rfl, hb, hB⟩ := hrel
    have hlen : (mixUp s.data.toList k).length = s.size := by rw [mixUp_len]; simp
    by_cases hlt : k < s.size
    · have hc := hb.cell k (by omega)
      have hf := hb.free k (by omega)
      have hl : k < s.data.toList.length := by simpa using hlt
      rw [mixUp_at _ _ hl] at hc
      generalize hx : s.data.toList.getD k 0 = x at hc
      have hset := mixUp_set s.data.toList k hl
      have hkeep := mixUp_keep s.data.toList k hl
      rw [hx] at hset hkeep
      unfold bv at hc
      have hx1 : (x.toNat : Int) < 256 := by have := x.toNat_lt; omega
      have hst := hb.store k (by omega)
      have HST := Lib.hid hst
      have HSET := Lib.hid hset
      have HKEEP := Lib.hid hkeep
      have HX := Lib.hid hx
      have HLEN := Lib.hid hlen
      clear hst hset hkeep hx hlen
      by_cases hup : 97 ≤ x.toNat ∧ x.toNat ≤ 122
      · obtain ⟨hu1, hu2⟩ := hup
        go_wp2_with (go_at_call 117; refine (in_yes _ _ _ _ (by omega) (by omega)).mono ?_; rintro e w' ⟨rfl, rfl⟩)
        go_roundw
        case rel =>
          refine ⟨k + 1, by omega, by go_num, ?_, hB.setCell (p := ⟨w.heap.size, k, none⟩) (Nat.le_refl _) _⟩
          have h3 := HST.out (upB x)
          rw [HSET.out] at h3
          have h4 : bv (upB x) = .int .u8 ((x.toNat : Int) - 32) := by
            unfold bv; rw [upB_nat, if_pos ⟨hu1, hu2⟩]; congr 1; omega
          rw [h4] at h3
          exact h3
        case measure => simp [intOf]; omega
      · have Hup := Lib.hid hup
        have hno : (x.toNat : Int) < 97 ∨ 122 < (x.toNat : Int) := by omega
        have Hno := Lib.hid hno
        clear hup hno
        go_wp2_with (go_at_call 117; refine (in_no _ _ _ _ Hno.out).mono ?_; rintro e w' ⟨rfl, rfl⟩)
        go_roundw
        case rel =>
          refine ⟨k + 1, by omega, by go_num, ?_, hB⟩
          rw [← HKEEP.out (by unfold upB; rw [if_neg Hup.out])]
          exact hb
        case measure => simp [intOf]; omega
    · rw [mixUp_all _ _ (by simp; omega)] at hb
      have hback := hb.back (P := Tryz.prog) 22 9 5 cap s.size (by simp [upS]) Tryz.underlying22 Tryz.underlying5 Tryz.underlying9
      have HLEN := Lib.hid hlen
      clear hlen
      go_wp2
      go_ret
      exact ⟨rfl, hB⟩
end Go.Proofs.YtgebkpnieailbaaGreatDoor

/-
  The walks of impl.Upper, of Same, and of the exact laws on both.
-/
namespace Go.Proofs.YtgebkpnieailbaaGreatDoor
set_option linter.unusedVariables false
open Go.RowKit

theorem tab_at (b : UInt8) : (tabUp2 123)[b.toNat]? = some (bv (upB b)) := by
  have := b.toNat_lt
  rw [tabUp2_get, if_pos (by omega)]
  unfold bv
  rw [upB_nat]
  by_cases h : 97 ≤ b.toNat ∧ b.toNat ≤ 122
  · rw [if_pos h, if_pos (by omega)]
  · rw [if_neg h, if_neg (by omega)]

theorem cell_far (w : World) (p a : Addr) (v : Value) (h : p.block ≠ a.block) : (w.setCell p v).cell? a = w.cell? a := by
  simp only [World.cell?, Below.heap_setCell w p v a.block (Ne.symm h)]

/-- A table in a block of its own. -/
def TabAt (w : World) (g : Nat) (C : Array Value) : Prop := ∀ j, w.cell? ⟨g, j, none⟩ = C[j]?

set_option maxRecDepth 100000 in
set_option maxHeartbeats 400000 in
theorem implUpper_any (s : ByteArray) (w : World) (hs : s.size ≤ maxLen) :
    Calls Tryz.prog 81 #[.string s] w fun e w' => e = .returned (.string ⟨(upS s.data.toList).toArray⟩) ∧ Below w.heap.size w w' := by
  unfold maxLen at hs
  obtain ⟨hz, hs256⟩ := zero_of_info info256
  obtain ⟨C0, HC0⟩ : ∃ C, Hid (C = z256) := ⟨_, Lib.hid rfl⟩
  rw [← HC0.out] at hz
  obtain ⟨T, HT⟩ : ∃ C, Hid (C = tabUp2 123) := ⟨_, Lib.hid rfl⟩
  have Htab := upperTable_any w
  rw [← HT.out] at Htab
  have HTAB := Lib.hid Htab
  clear Htab
  have hTs : T.size = 256 := by rw [HT.out, tabUp2_size]
  have hC : C0.size = 256 := by rw [HC0.out]; rfl
  have HALL : Hid (T.all (·.oneCell') = true) := Lib.hid (by rw [HT.out]; exact tabUp2_one _)
  have HS : Hid ((Tryz.prog.info? 181).map (·.size) = some T.size) := Lib.hid (by rw [hs256, hTs])
  have HCS : Hid (C0.size = T.size) := Lib.hid (by rw [hC, hTs])
  clear hTs hC hs256
  go_enter Tryz.func81, Tryz.ntmps81
  go_wp2_with (first | (go_at_call 135; refine HTAB.out.mono ?_; rintro e w1 ⟨rfl, hB1⟩; obtain ⟨W, cap, hconv, hbuf, hbel, hsz⟩ := conv_bytes (P := Tryz.prog) (w1.alloc (.cells T 181)) 9 22 5 s Tryz.underlying9 Tryz.underlying22 Tryz.underlying5; have HSZ := Lib.hid hsz; clear hsz) | (refine wpList_store_row rfl 181 _ _ rfl w1.heap.size T rfl rfl 181 C0 (heap_alloc_new _ _) HS.out HCS.out HALL.out ?_; rw [World.setRow_alloc_new]))
  have hsz1 : (w1.alloc (.cells T 181)).heap.size = w1.heap.size + 1 := by simp
  rw [hsz1] at hbuf hbel
  have htab : ∀ j, W.cell? ⟨w1.heap.size, j, none⟩ = T[j]? := fun j => by
    have h1 : W.heap[w1.heap.size]? = (w1.alloc (.cells T 181)).heap[w1.heap.size]? := hbel.block _ (by omega)
    rw [heap_alloc_new] at h1
    simp [World.cell?, h1]
  have hBW : Below w.heap.size w W := (hB1.alloc hB1.size _).trans (hbel.mono (by have := hB1.size; omega))
  have HTABLE := Lib.hid htab
  have hle := hB1.size
  clear hsz1 htab hbel hconv
  go_loopw [12] (fun i wr => ∃ k : Nat, k ≤ s.size ∧ i = .int .i64 k ∧ Buf wr (w1.heap.size + 1) 5 (mixUp s.data.toList k) ∧ Below w.heap.size w wr ∧ Hid (∀ j, wr.cell? ⟨w1.heap.size, j, none⟩ = T[j]?)) (fun i _ => s.size - (intOf i).toNat)
  case atStart => exact ⟨0, Nat.zero_le _, rfl, by rw [mixUp_zero]; exact hbuf, hBW, HTABLE⟩
  case round =>
    obtain ⟨k, hk, rfl, hb, hB, HTB⟩ := hrel
    have hlen : (mixUp s.data.toList k).length = s.size := by rw [mixUp_len]; simp
    by_cases hlt : k < s.size
    · have hc := hb.cell k (by omega)
      have hf := hb.free k (by omega)
      have hl : k < s.data.toList.length := by simpa using hlt
      rw [mixUp_at _ _ hl] at hc
      generalize hx : s.data.toList.getD k 0 = x at hc
      have hset := mixUp_set s.data.toList k hl
      rw [hx] at hset
      have htx : wr.cell? ⟨w1.heap.size, x.toNat, none⟩ = some (bv (upB x)) := by rw [HTB.out, HT.out]; exact tab_at x
      generalize hy : upB x = y at htx hset
      have hx1 : (x.toNat : Int) < 256 := by have := x.toNat_lt; omega
      have HST := Lib.hid (hb.store k (by omega) y)
      have HSET := Lib.hid hset
      have HX := Lib.hid hx
      have HY := Lib.hid hy
      have HLEN := Lib.hid hlen
      unfold bv at hc htx
      clear hset hx hlen hy hbuf hBW
      go_wp2
      go_roundw
      case rel =>
        refine ⟨k + 1, by omega, by go_num, ?_, hB.setCell (p := ⟨w1.heap.size + 1, k, none⟩) (by show _ ≤ w1.heap.size + 1; omega) _, Lib.hid (fun j => ?_)⟩
        · have h3 := HST.out
          rw [HSET.out] at h3
          exact h3
        · have hq : ∀ v, (wr.setCell ⟨w1.heap.size + 1, k, none⟩ v).cell? ⟨w1.heap.size, j, none⟩ = wr.cell? ⟨w1.heap.size, j, none⟩ := fun v => cell_far wr _ _ v (by show w1.heap.size + 1 ≠ w1.heap.size; omega)
          exact (hq _).trans (HTB.out j)
      case measure => simp [intOf]; omega
    · rw [mixUp_all _ _ (by simp; omega)] at hb
      have hback := hb.back (P := Tryz.prog) 22 9 5 cap s.size (by simp [upS]) Tryz.underlying22 Tryz.underlying5 Tryz.underlying9
      have HLEN := Lib.hid hlen
      clear hlen hbuf
      go_wp2
      go_ret
      exact ⟨rfl, hB⟩
end Go.Proofs.YtgebkpnieailbaaGreatDoor

/-
  The walks of Same, and of the exact law on it.
-/
namespace Go.Proofs.YtgebkpnieailbaaGreatDoor
set_option linter.unusedVariables false
open Go.RowKit

def sameB (a b : List UInt8) : Bool := upS a == upS b

set_option maxHeartbeats 400000 in
theorem specSame_any (a b : ByteArray) (w : World) (ha : a.size ≤ maxLen) (hb : b.size ≤ maxLen) :
    Calls Tryz.prog 107 #[.string a, .string b] w fun e w' => e = .returned (.bool (sameB a.data.toList b.data.toList)) ∧ Below w.heap.size w w' := by
  have HA := Lib.hid ha
  have HB := Lib.hid hb
  clear ha hb
  go_enter Tryz.func107, Tryz.ntmps107
  go_wp2_with fail
  refine (specUpper_any _ _ HA.out).mono ?_
  rintro e w1 ⟨rfl, hB1⟩
  go_wp2_with fail
  refine (specUpper_any _ _ HB.out).mono ?_
  rintro e w2 ⟨rfl, hB2⟩
  go_wp2_with fail
  go_ret
  exact ⟨rfl, hB1.trans (hB2.mono hB1.size)⟩

set_option maxHeartbeats 400000 in
theorem implSame_any (a b : ByteArray) (w : World) (ha : a.size ≤ maxLen) (hb : b.size ≤ maxLen) :
    Calls Tryz.prog 255 #[.string a, .string b] w fun e w' => e = .returned (.bool (sameB a.data.toList b.data.toList)) ∧ Below w.heap.size w w' := by
  have HA := Lib.hid ha
  have HB := Lib.hid hb
  clear ha hb
  go_enter Tryz.func255, Tryz.ntmps255
  go_wp2_with fail
  refine (implUpper_any _ _ HA.out).mono ?_
  rintro e w1 ⟨rfl, hB1⟩
  go_wp2_with fail
  refine (implUpper_any _ _ HB.out).mono ?_
  rintro e w2 ⟨rfl, hB2⟩
  go_wp2_with fail
  go_ret
  exact ⟨rfl, hB1.trans (hB2.mono hB1.size)⟩
end Go.Proofs.YtgebkpnieailbaaGreatDoor

/-
  The first field of a name: plain; the walk of spec's BodyOf.
-/
namespace Go.Proofs.YtgebkpnieailbaaGreatDoor
set_option linter.unusedVariables false
open Go.RowKit

def bodyOf (name : List UInt8) : List Fl → Option (List UInt8)
  | [] => none
  | f :: r => if sameB f.name name then some f.body else bodyOf name r
/-- What BodyOf tells. -/
def bodyV (b : Option (List UInt8)) : Value := match b with
  | none => .tuple #[.string ⟨#[]⟩, .bool false]
  | some x => .tuple #[.string (mkB x), .bool true]
theorem bodyOf_drop (name : List UInt8) (l : List Fl) (k : Nat) (h : k < l.length) : bodyOf name (l.drop k) = if sameB l[k].name name then some l[k].body else bodyOf name (l.drop (k + 1)) := by
  rw [List.drop_eq_getElem_cons h, bodyOf]

set_option maxRecDepth 100000 in
set_option maxHeartbeats 1000000 in
theorem specBody_any (v : Value) (l : List Fl) (s : ByteArray) (w : World) (hv : FlsAt w v l) (hs : s.size ≤ maxLen) (hx : ∀ f ∈ l, (mkB f.name).size ≤ maxLen) (hl : l.length ≤ 16777216) :
    Calls Tryz.prog 57 #[v, .string s] w fun e w' => e = .returned (bodyV (bodyOf s.data.toList l)) ∧ Below w.heap.size w w' := by
  obtain ⟨R, hR⟩ : ∃ R, bodyOf s.data.toList l = R := ⟨_, rfl⟩
  rw [hR]
  have HR : Hid (bodyOf s.data.toList (l.drop 0) = R) := Lib.hid (by rw [List.drop_zero, hR])
  obtain ⟨p, cap, rfl⟩ := hv.slice
  have HV := Lib.hid hv
  have HX := Lib.hid hx
  have HS := Lib.hid hs
  clear hv hx hs hR
  go_enter Tryz.func57, Tryz.ntmps57
  go_wp2
  go_loopw [6] (fun i wr => ∃ k : Nat, k ≤ l.length ∧ i = .int .i64 k ∧ Hid (bodyOf s.data.toList (l.drop k) = R) ∧ Below w.heap.size w wr) (fun i _ => l.length - (intOf i).toNat)
  case atStart => exact ⟨0, Nat.zero_le _, rfl, HR, Below.refl _ _⟩
  case round =>
    obtain ⟨k, hk, rfl, HP, hB⟩ := hrel
    have hsz := hB.size
    by_cases hlt : k < l.length
    · have g1 : decide ((k : Int) < (l.length : Int)) = true := by simp; omega
      have i1 : (0 : Int) ≤ (k : Int) := by omega
      have i2 : (k : Int) < (l.length : Int) := by omega
      obtain ⟨g, off, c2, hgv, hg, hc⟩ : ∃ g off c2, Value.slice p l.length cap = .slice (some ⟨g, off, none⟩) l.length c2 ∧ g < w.heap.size ∧ ∀ k, (h : k < l.length) → w.cell? ⟨g, off + k * 2, none⟩ = some (.string (mkB l[k].name)) ∧ w.cell? ⟨g, off + k * 2 + 1, none⟩ = some (.string (mkB l[k].body)) := by
        rcases HV.out with ⟨h, _⟩ | h
        · rw [h] at hlt; simp at hlt
        · exact h
      injection hgv with hgv1 hgv2 hgv3
      subst hgv1 hgv3
      obtain ⟨x1, x2⟩ := hc k hlt
      have hP := HP.out
      rw [bodyOf_drop _ _ _ hlt] at hP
      have SM := Lib.hid (fun w => specSame_any (mkB l[k].name) s w (HX.out _ (List.getElem_mem hlt)) HS.out)
      rw [mkB_list] at SM
      have y1 := (hB.cell (p := ⟨g, off + k * 2, none⟩) hg).trans x1
      have y2 := fun W (h : Below w.heap.size w W) => (h.cell (p := ⟨g, off + k * 2 + 1, none⟩) hg).trans x2
      generalize mkB l[k].name = nm at y1 SM
      obtain ⟨bl, hbl⟩ : ∃ bl, l[k].body = bl := ⟨_, rfl⟩
      rw [hbl] at hP y2
      have Y2 := Lib.hid y2
      clear hc x1 x2 y2 HP hbl
      cases hsm : sameB l[k].name s.data.toList with
      | true =>
        rw [hsm] at hP SM
        obtain rfl : some bl = R := hP
        have HB := Lib.hid hB
        clear hsm hB
        go_wp2_with fail
        refine (SM.out _).mono ?_
        rintro e w1 ⟨rfl, hB1⟩
        have B1 := Lib.hid (HB.out.trans (hB1.mono hsz))
        have z2 := Y2.out w1 B1.out
        clear hB1
        go_wp2_with fail
        go_ret2
        exact ⟨rfl, B1.out⟩
      | false =>
        rw [hsm, if_neg (by simp)] at hP
        rw [hsm] at SM
        have HP := Lib.hid hP
        have HB := Lib.hid hB
        clear hsm hB hP
        go_wp2_with fail
        refine (SM.out _).mono ?_
        rintro e w1 ⟨rfl, hB1⟩
        have B1 := Lib.hid (HB.out.trans (hB1.mono hsz))
        clear hB1
        go_wp2_with fail
        go_roundw
        case rel => exact ⟨k + 1, by omega, by go_num, HP, B1.out⟩
        case measure => simp [intOf]; omega
    · obtain rfl : k = l.length := by omega
      have g1 : decide ((l.length : Int) < (l.length : Int)) = false := by simp
      have hP := HP.out
      rw [List.drop_length] at hP
      obtain rfl : none = R := hP
      clear HP HR
      go_wp2_with fail
      go_ret2
      exact ⟨rfl, hB⟩
end Go.Proofs.YtgebkpnieailbaaGreatDoor

/-
  Elements with blanks between, in brackets; plain.
-/
namespace Go.Proofs.YtgebkpnieailbaaGreatDoor
set_option linter.unusedVariables false
open Go.RowKit

/-- The elements, with blanks between, in brackets. -/
def glueT : List (List UInt8) → List UInt8
  | [] => []
  | x :: r => 32 :: x ++ glueT r
def joinB : List (List UInt8) → List UInt8
  | [] => []
  | x :: r => x ++ glueT r
def listT (l : List (List UInt8)) : List UInt8 := 40 :: joinB l ++ [41]
theorem glueT_append : ∀ (a b : List (List UInt8)), glueT (a ++ b) = glueT a ++ glueT b
  | [], b => rfl
  | x :: r, b => by rw [List.cons_append, glueT, glueT, glueT_append r b]; simp
theorem joinB_snoc (l : List (List UInt8)) (x : List UInt8) (h : l ≠ []) : joinB (l ++ [x]) = joinB l ++ 32 :: x := by
  cases l with
  | nil => exact absurd rfl h
  | cons a r =>
    rw [List.cons_append, joinB, joinB, glueT_append]
    simp [glueT]
theorem glueT_len : ∀ (l : List (List UInt8)), (glueT l).length = total l + l.length
  | [] => rfl
  | x :: r => by
    have := glueT_len r
    rw [glueT, total_cons, List.length_append, List.length_cons, List.length_cons, this]
    omega
theorem joinB_len (l : List (List UInt8)) : (joinB l).length = total l + (l.length - 1) := by
  cases l with
  | nil => rfl
  | cons x r =>
    rw [joinB, List.length_append, glueT_len, total_cons, List.length_cons]
    omega
end Go.Proofs.YtgebkpnieailbaaGreatDoor

/-
  Envelopes: what they are, how long; plain.
-/
namespace Go.Proofs.YtgebkpnieailbaaGreatDoor
set_option linter.unusedVariables false
open Go.RowKit

/-- The text of a field's body. -/
def bodyT (b : Option (List UInt8)) : List UInt8 := match b with
  | none => nilL
  | some s => if putStr s = [] then nilL else putStr s
/-- The addresses of a field. -/
def adT (b : Option (List UInt8)) : List UInt8 := addrTs (addrsL (b.getD []))
def orT (x y : List UInt8) : List UInt8 := if x = nilL then y else x
def envT (l : List Fl) : List UInt8 :=
  listT [bodyT (bodyOf [68, 65, 84, 69] l), bodyT (bodyOf [83, 85, 66, 74, 69, 67, 84] l), adT (bodyOf [70, 82, 79, 77] l),
    orT (adT (bodyOf [83, 69, 78, 68, 69, 82] l)) (adT (bodyOf [70, 82, 79, 77] l)), orT (adT (bodyOf [82, 69, 80, 76, 89, 45, 84, 79] l)) (adT (bodyOf [70, 82, 79, 77] l)),
    adT (bodyOf [84, 79] l), adT (bodyOf [67, 67] l), adT (bodyOf [66, 67, 67] l), bodyT (bodyOf [73, 78, 45, 82, 69, 80, 76, 89, 45, 84, 79] l), bodyT (bodyOf [77, 69, 83, 83, 65, 71, 69, 45, 73, 68] l)]

theorem bodyOf_mem {n : List UInt8} : ∀ {l : List Fl} {s : List UInt8}, bodyOf n l = some s → ∃ f ∈ l, f.body = s
  | [], s, h => by simp [bodyOf] at h
  | f :: r, s, h => by
    rw [bodyOf] at h
    split at h
    · exact ⟨f, by simp, Option.some.inj h⟩
    · obtain ⟨g, h1, h2⟩ := bodyOf_mem h
      exact ⟨g, by simp [h1], h2⟩
/-- A name in great letters or in others. -/
theorem bodyOf_up (a b : List UInt8) (h : upS a = upS b) : ∀ l : List Fl, bodyOf a l = bodyOf b l
  | [] => rfl
  | f :: r => by
    rw [bodyOf, bodyOf, bodyOf_up a b h r]
    unfold sameB
    rw [h]
theorem fieldsL_mem {s : List UInt8} {f : Fl} (h : f ∈ fieldsL s) : f.name.length + f.body.length ≤ s.length := by
  unfold fieldsL at h
  obtain ⟨t, h1, h2⟩ := List.mem_filterMap.1 h
  have h3 := fieldOf_len h2
  have h4 := total_mem h1
  have h5 := joinT_total (linesA [] s) []
  have h6 := (total_lines s.length [] s (Nat.le_refl _)).1
  simp only [total, List.map_nil, List.foldr_nil, List.length_nil, Nat.zero_add] at h5 h6
  simp only [total] at h4
  omega
theorem fields_few : ∀ (T : List (List UInt8)), (T.filterMap fieldOf).length ≤ total T
  | [] => Nat.le_refl _
  | t :: r => by
    have h1 := fields_few r
    rw [total_cons, List.filterMap_cons]
    cases hf : fieldOf t with
    | none => dsimp only; omega
    | some f =>
      have : 0 < t.length := by
        cases t with
        | nil => exact absurd hf (by simp [show fieldOf [] = none from by kernel_rfl])
        | cons => simp
      simp only [List.length_cons]
      omega
theorem fieldsL_few (s : List UInt8) : (fieldsL s).length ≤ s.length := by
  have h1 := fields_few (joinT [] (linesA [] s))
  have h5 := joinT_total (linesA [] s) []
  have h6 := (total_lines s.length [] s (Nat.le_refl _)).1
  unfold fieldsL
  simp only [total, List.map_nil, List.foldr_nil, List.length_nil, Nat.zero_add] at h1 h5 h6
  omega
theorem bodyOf_small {s n : List UInt8} : ((bodyOf n (fieldsL s)).getD []).length ≤ s.length := by
  cases h : bodyOf n (fieldsL s) with
  | none => simp
  | some b =>
    obtain ⟨f, h1, h2⟩ := bodyOf_mem h
    have := fieldsL_mem h1
    rw [← h2]
    simp only [Option.getD_some]
    omega
theorem bodyT_len (b : Option (List UInt8)) (h : (b.getD []).length ≤ 1048576) : (bodyT b).length ≤ 4000000 := by
  unfold bodyT
  cases b with
  | none => decide
  | some s =>
    simp only [Option.getD_some] at h
    have := putStr_len s (by omega)
    dsimp only
    split
    · decide
    · omega
theorem addrs_few : ∀ (l : List (List UInt8)), (l.filterMap addrOf).length ≤ adSizes (l.filterMap addrOf)
  | [] => Nat.le_refl _
  | p :: r => by
    have h1 := addrs_few r
    rw [List.filterMap_cons]
    cases h : addrOf p with
    | none => exact h1
    | some a =>
      obtain ⟨h2, _, _, _⟩ := addrOf_some h
      have h3 : 0 < a.box.length := List.length_pos_iff.2 h2
      have h4 : a.box.length ≤ adSize a := by unfold adSize; omega
      simp only [List.length_cons, adSizes_cons]
      omega
theorem addrs_small (s : List UInt8) (h : s.length ≤ 1048576) : adSizes (addrsL s) ≤ s.length ∧ (addrsL s).length ≤ s.length := by
  have h1 := addrs_size (comL s)
  obtain ⟨h2, h3⟩ := comL_total s
  have h4 := addrs_few (comL s)
  unfold addrsL
  unfold adSizes at h4 ⊢
  omega
theorem adT_len (b : Option (List UInt8)) (h : (b.getD []).length ≤ 1048576) : (adT b).length ≤ 200000000 := by
  unfold adT
  obtain ⟨h1, h2⟩ := addrs_small (b.getD []) (by omega)
  generalize addrsL (b.getD []) = l at h1 h2
  have h3 := flat_len l (by omega)
  unfold addrTs
  split
  · decide
  · simp only [List.length_cons, List.length_append, List.length_nil]
    omega
theorem orT_len {x y : List UInt8} {k : Nat} (hx : x.length ≤ k) (hy : y.length ≤ k) : (orT x y).length ≤ k := by
  unfold orT
  split <;> assumption
/-- Addresses are told as NIL where there are none. -/
theorem addrTs_nil (l : List Ad) : addrTs l = nilL ↔ l = [] := by
  constructor
  · intro h
    by_cases hl : l = []
    · exact hl
    · unfold addrTs at h
      rw [if_neg hl] at h
      have := congrArg List.head? h
      simp [nilL] at this
  · rintro rfl; rfl
end Go.Proofs.YtgebkpnieailbaaGreatDoor

/-
  What is asked of impl's BodyOf.
-/
namespace Go.Proofs.YtgebkpnieailbaaGreatDoor
set_option linter.unusedVariables false
open Go.RowKit

/-- What is asked of impl's BodyOf. -/
def BodyIs : Prop := ∀ (v : Value) (l : List Fl) (s : ByteArray) (w : World), FlsAt w v l → s.size ≤ 1048576 → (putL l).length ≤ 8388608 → l.length ≤ 1048576 →
  Calls Tryz.prog 29 #[v, .string s] w fun e w' => e = .returned (bodyV (bodyOf s.data.toList l)) ∧ Below w.heap.size w w'
end Go.Proofs.YtgebkpnieailbaaGreatDoor

/-
  What an append to a row of the call's own leaves.
-/
namespace Go.Proofs.YtgebkpnieailbaaGreatDoor
set_option linter.unusedVariables false
open Go.RowKit

theorem row_not {w : World} {B k n : Nat} {e : TypeId} {v : Value} {xs : List Value} (h : w.ownsRow B e k v n xs) {j : Nat} {cs : Array Value} {T : TypeId} {fr : Nat × Nat} (hj : w.heap[j]? = some (.cells cs T fr)) (ht : T ≠ e) : some j ≠ v.ownBlock := by
  intro e'
  rcases h.2 with ⟨rfl, _⟩ | ⟨g, cap, cur, rfl, _, hgb, _⟩
  · simp [Value.ownBlock] at e'
  · have : g = j := by simpa [Value.ownBlock] using e'.symm
    subst this; rw [hj] at hgb; cases hgb; exact ht rfl
theorem heap_lt {w : World} {j : Nat} {o : Obj} (h : w.heap[j]? = some o) : j < w.heap.size := (Array.getElem?_eq_some_iff.1 h).1
theorem two_kept {wa wb : World} {B k n : Nat} {e : TypeId} {v : Value} {xs : List Value} {j : Nat} {cs : Array Value} {T : TypeId} (h : wa.ownsRow B e k v n xs) (hg : wa.grownBy wb v.ownBlock) (hj : wa.heap[j]? = some (.cells cs T (0, 0))) (ht : T ≠ e) : wb.heap[j]? = some (.cells cs T (0, 0)) :=
  (hg.block _ (heap_lt hj) (row_not h hj ht)).trans hj
theorem app_below {w wa wb : World} {k n : Nat} {e : TypeId} {v : Value} {xs : List Value} (hb : Below w.heap.size w wa) (h : wa.ownsRow w.heap.size e k v n xs) (hg : wa.grownBy wb v.ownBlock) : Below w.heap.size w wb :=
  hb.grown hg hb.size (fun k e => (h.lt k e).1)
theorem alloc_new (w : World) (cs : Array Value) (T : TypeId) : (w.alloc (.cells cs T)).heap[w.heap.size]? = some (.cells cs T (0, 0)) := by
  show (w.heap.push _)[w.heap.size]? = some _
  simp
theorem cell_of_two {w : World} {j : Nat} {a b : Value} {T : TypeId} {fr : Nat × Nat} (h : w.heap[j]? = some (.cells #[a, b] T fr)) : w.cell? ⟨j, 0, none⟩ = some a ∧ w.cell? ⟨j, 1, none⟩ = some b := by
  constructor <;> simp [World.cell?, h]

end Go.Proofs.YtgebkpnieailbaaGreatDoor

/-
  The walk of slices.Backward over fields.
-/
namespace Go.Proofs.YtgebkpnieailbaaGreatDoor
set_option linter.unusedVariables false
open Go.RowKit Go.Shelf Go.Maps
attribute [local go_sem] Oper.semAt_some

/-- The call of the iterator that goes backward: the value. -/
theorem backward_in (d : Nat) (p : Option Addr) (n cap : Nat) (w : World) :
    CallsIn Fence.wide d Tryz.prog 119 #[.slice p n cap] w fun e w' =>
      e = .returned (.func (.func 154) #[] #[.pointer (some ⟨w.heap.size, 0, none⟩)]) ∧ w' = w.alloc (.cells #[.slice p n cap] 42) := by
  refine callsIn_of_wp Tryz.func119 rfl trivial ?_ rfl
  simp only [Tryz.ntmps119, List.size_toArray, List.length_cons, List.length_nil, Nat.reduceAdd, Nat.reduceSub, Array.replicate_succ, Array.replicate_zero, List.push_toArray, List.append_toArray, List.nil_append, List.cons_append]
  gi_wp2
  go_ret
  exact ⟨rfl, rfl⟩

/-- Blocks below n and block B stay as they are. -/
def KB (n B : Nat) (W W' : World) : Prop := Below n W W' ∧ W'.heap[B]? = W.heap[B]?
theorem KB.trans {n B : Nat} {A C D : World} (h : KB n B A C) (k : KB n B C D) : KB n B A D := ⟨h.1.trans k.1, k.2.trans h.2⟩
theorem KB.putObj {n B m : Nat} (hn : n ≤ m) (hB : B < m) (W : World) (l : Nat) (o o' : Obj) (hl : m ≤ l) (h : W.heap[l]? = some o) (_ : o.isCells = false) (_ : o.isWalk = false) : KB n B W (W.putObj l o') :=
  ⟨(Below.refl n W).grown (grownBy_putObj' W l o') (by have := (Array.getElem?_eq_some_iff.1 h).1; omega) (fun k e => by cases e; omega), World.putObj_heap_other (by omega)⟩

/-- What the iterator hands on: an element and its place. -/
def encF (x : Fl × Nat) : Array Value := #[.int .i64 (x.2 : Int), .agg #[.string (mkB x.1.name), .string (mkB x.1.body)]]
def backL (l : List Fl) (k : Nat) : List (Fl × Nat) := (l.zipIdx.take k).reverse
theorem backL_zero (l : List Fl) : backL l 0 = [] := rfl
theorem backL_succ (l : List Fl) (k : Nat) (h : k < l.length) : backL l (k + 1) = (l[k], k) :: backL l k := by
  unfold backL
  rw [List.take_add_one, List.getElem?_eq_getElem (by simpa using h)]
  simp
theorem backL_len (l : List Fl) (k : Nat) (h : k ≤ l.length) : (backL l k).length = k := by
  unfold backL
  simp; omega

set_option maxRecDepth 100000 in
set_option maxHeartbeats 1000000 in
theorem back1_in {α : Type} (en : α → Fl × Nat) (full : List α) (d : Nat) (hd : 1 ≤ d) (lp Bs : Nat) (p : Option Addr) (cap : Nat) (l : List Fl) (hl : l.length ≤ 1048576) (hfull : full.map en = backL l l.length) (w0 : World) (hv : FlsAt w0 (.slice p l.length cap) l) (J Jx : List α → World → Prop)
    (hY : ∀ pre x W, J pre W → pre.length < l.length → YieldAt Fence.wide (d - 1) Tryz.prog lp (encF (en x)) W fun e W' =>
      (e = .returned (.bool true) ∧ J (pre ++ [x]) W' ∧ KB w0.heap.size Bs W W') ∨ (e = .returned (.bool false) ∧ Jx (pre ++ [x]) W'))
    (W : World) (hcs : W.cell? ⟨Bs, 0, none⟩ = some (.slice p l.length cap)) (hB : Below w0.heap.size w0 W) (h0 : J [] W) :
    CallsIn Fence.wide d Tryz.prog 154 #[.func (.yield lp) #[] #[], .pointer (some ⟨Bs, 0, none⟩)] W fun e W' => (∃ v, e = .returned v) ∧
      ((∃ ys, ys = full ∧ J ys W') ∨ (∃ pre, pre <+: full ∧ Jx pre W')) := by
  have HV := Lib.hid hv
  have HB0 := Lib.hid hB
  clear hv hB
  refine callsIn_of_wp Tryz.func154 rfl trivial ?_ rfl
  simp only [Tryz.ntmps154, List.size_toArray, List.length_cons, List.length_nil, Nat.reduceAdd, Nat.reduceSub, Array.replicate_succ, Array.replicate_zero, List.push_toArray, List.append_toArray, List.nil_append, List.cons_append]
  have hw1 : wrap64 ((l.length : Int) - 1) = (l.length : Int) - 1 := by unfold wrap64; omega
  gi_wp2
  gi_loopw [3] (fun i wr => ∃ (k : Nat) (pre rest : List α), k ≤ l.length ∧ Hid (∃ x : Int, i = .int .i64 x ∧ x = (k : Int) - 1) ∧ Hid (full = pre ++ rest ∧ rest.map en = backL l k) ∧ J pre wr ∧ wr.cell? ⟨Bs, 0, none⟩ = some (.slice p l.length cap) ∧ Hid (Below w0.heap.size w0 wr))
    (fun i _ => (intOf i + 1).toNat)
  case atStart =>
    exact ⟨l.length, [], full, Nat.le_refl _, Lib.hid ⟨_, rfl, rfl⟩, Lib.hid ⟨rfl, hfull⟩, h0, hcs, HB0⟩
  case round =>
    obtain ⟨k, pre, rest, hk, hi, hx, hJs, hcm1, HB1⟩ := hrel
    obtain ⟨x, rfl, hxk⟩ := hi.out
    rcases k with _ | k
    · have g1 : decide ((0 : Int) ≤ x) = false := by simp; omega
      have HX : Hid (pre = full) := Lib.hid (by obtain ⟨h1, h2⟩ := hx.out; rw [backL_zero] at h2; rw [h1, List.map_eq_nil_iff.1 h2, List.append_nil])
      gi_wp2
      go_end0
      exact ⟨⟨_, rfl⟩, .inl ⟨_, HX.out, hJs⟩⟩
    · obtain rfl : x = (k : Int) := by omega
      clear hxk
      have g1 : decide ((0 : Int) ≤ (k : Int)) = true := by simp
      obtain ⟨hx2, hx3⟩ := hx.out
      rw [backL_succ l k (by omega)] at hx3
      obtain ⟨y, rest', hrest, hen, hx4⟩ := List.map_eq_cons_iff.1 hx3
      subst hrest
      have hpl : pre.length < l.length := by
        have h1 := congrArg List.length hfull
        rw [backL_len _ _ (Nat.le_refl _), List.length_map, hx2, List.length_append, List.length_cons] at h1
        omega
      obtain ⟨fn, tmps, assign, body, hy, hR⟩ := hY pre y wr hJs hpl
      rw [hen] at hy
      obtain ⟨g, off, c2, hgv, hg, hc⟩ : ∃ g off c2, Value.slice p l.length cap = .slice (some ⟨g, off, none⟩) l.length c2 ∧ g < w0.heap.size ∧ ∀ k, (h : k < l.length) → w0.cell? ⟨g, off + k * 2, none⟩ = some (.string (mkB l[k].name)) ∧ w0.cell? ⟨g, off + k * 2 + 1, none⟩ = some (.string (mkB l[k].body)) := by
        rcases HV.out with ⟨h, _⟩ | h
        · rw [h] at hk; simp at hk
        · exact h
      injection hgv with hgv1 hgv2 hgv3
      subst hgv1 hgv3
      obtain ⟨x1, x2⟩ := hc k (by omega)
      have z1 : wr.cell? ⟨g, off + k * 2, none⟩ = some (.string (mkB l[k].name)) := (HB1.out.cell (p := ⟨g, off + k * 2, none⟩) hg).trans x1
      have z2 : wr.cell? ⟨g, off + k * 2 + 1, none⟩ = some (.string (mkB l[k].body)) := (HB1.out.cell (p := ⟨g, off + k * 2 + 1, none⟩) hg).trans x2
      have i1 : (0 : Int) ≤ (k : Int) := by omega
      have i2 : (k : Int) < (l.length : Int) := by omega
      have HX2 := Lib.hid hx2
      have HX4 := Lib.hid hx4
      dsimp only [encF] at hy
      clear hx2 hx3 hx4 hen hpl hc x1 x2 g1 hgv2
      generalize l[k] = f at hy z1 z2
      have hwk : wrap64 ((k : Int) - 1) = (k : Int) - 1 := by unfold wrap64; omega
      have g1 : decide ((0 : Int) ≤ (k : Int)) = true := by simp
      gi_wp2
      refine hR.mono ?_
      rintro e W3 (⟨rfl, hJ3, hk3⟩ | ⟨rfl, hJx3⟩)
      · have hcm3 : W3.cell? ⟨Bs, 0, none⟩ = _ := (show W3.cell? ⟨Bs, 0, none⟩ = wr.cell? ⟨Bs, 0, none⟩ by simp only [World.cell?, hk3.2]).trans hcm1
        have HB3 := Lib.hid (HB1.out.trans hk3.1)
        clear hk3
        gi_wp2
        go_roundw
        case rel => exact ⟨k, pre ++ [y], rest', by omega, Lib.hid ⟨_, rfl, rfl⟩, Lib.hid ⟨by rw [HX2.out]; simp, HX4.out⟩, hJ3, hcm3, HB3⟩
        case measure => simp [intOf]
      · gi_wp2
        refine bodyPost_ret (results_none rfl _ _ _) rfl ?_
        exact ⟨⟨_, rfl⟩, .inr ⟨pre ++ [y], ⟨rest', by rw [HX2.out]; simp⟩, hJx3⟩⟩

theorem back_stops {α : Type} (en : α → Fl × Nat) (full : List α) (d : Nat) (hd : 1 ≤ d) (Bs : Nat) (p : Option Addr) (cap : Nat) (l : List Fl) (hl : l.length ≤ 1048576) (hfull : full.map en = backL l l.length) (w0 : World) (hv : FlsAt w0 (.slice p l.length cap) l) (w : World) (hBs : Bs < w.heap.size) (hB : Below w0.heap.size w0 w)
    (hcs : w.cell? ⟨Bs, 0, none⟩ = some (.slice p l.length cap)) :
    SeqStopsK Fence.wide d Tryz.prog 154 #[.pointer (some ⟨Bs, 0, none⟩)] (fun x => encF (en x)) (KB w0.heap.size Bs) (fun ys => ys = full) (fun pre => pre <+: full) l.length w := fun lp J Jx W hW _ _ hY h0 =>
  back1_in en full d hd lp Bs p cap l hl hfull w0 hv J Jx hY W ((hW.cell (p := ⟨Bs, 0, none⟩) hBs).trans hcs) (hB.trans (hW.mono hB.size)) h0

end Go.Proofs.YtgebkpnieailbaaGreatDoor

/-
  The first field of a name: impl's firstBodies and BodyOf.
-/
namespace Go.Proofs.YtgebkpnieailbaaGreatDoor
set_option linter.unusedVariables false
open Go.RowKit Go.Shelf Go.Maps
attribute [local go_sem] Oper.semAt_some

theorem run_makeHint (n : Int) (w : World) : (Instr.makeMap 105 (some (.int .i64 n))).run Tryz.prog w = .ok (.map (some w.heap.size)) (w.alloc (.map #[] 0)) := by
  simp [Instr.makeMap, run_underlying Tryz.underlying105, asInt, asIntOf, Result.andThen]

/-- A field that is not too long. -/
abbrev Sm : Type := {x : Fl × Nat // x.1.name.length ≤ 8388608 ∧ x.1.body.length ≤ 8388608}
/-- The map behind the fields of pre. -/
def mapOf (pre : List Sm) : DataW Unit := pre.foldl (fun D x => D.put (.string (upS x.1.1.name)) (.lit (.string x.1.1.body))) (.map [])
theorem mapOf_snoc (pre : List Sm) (x : Sm) : mapOf (pre ++ [x]) = (mapOf pre).put (.string (upS x.1.1.name)) (.lit (.string x.1.1.body)) := by simp [mapOf]

/-- Between two rounds. -/
structure BodAt (w : World) (pre : List Sm) (W : World) : Prop where
  box : Boxed W (w.heap.size + 1) 105 (.map (some w.heap.size))
  own : W.ownsMap Tryz.prog 9 (plainElem Tryz.prog 9) w.heap.size pre.length (mapOf pre)
  below : Below w.heap.size w W
  size : w.heap.size + 3 ≤ W.heap.size
theorem own_below {H : Type} {P : Program} {k : TypeId} {R : Value → Option (DataW H × List MemPlace)} {b n : Nat} {D : DataW H} {W w1 : World} (h : W.ownsMap P k R b n D) (hb : Below W.heap.size W w1) : w1.ownsMap P k R b n D :=
  h.kept (row := none) ⟨hb.os, hb.tape, hb.output, hb.size, fun k hk _ => hb.block k hk⟩ (by simp)
theorem cells_of_two {W : World} {n : Nat} {T : TypeId} {a b : Value} {fr : Nat × Nat} (h : W.heap[n]? = some (.cells #[a, b] T fr)) : W.cell? ⟨n, 0, none⟩ = some a ∧ W.cell? ⟨n, 1, none⟩ = some b := by
  constructor <;> simp [World.cell?, h]

set_option maxRecDepth 100000 in
set_option maxHeartbeats 1000000 in
theorem bodies_in (p : Option Addr) (cap : Nat) (l : List Fl) (full : List Sm) (hl : l.length ≤ 1048576) (hfull : full.map (·.1) = backL l l.length) (w : World) (hv : FlsAt w (.slice p l.length cap) l) :
    CallsIn Fence.wide 4 Tryz.prog 69 #[.slice p l.length cap] w fun e w' => e = .returned (.map (some w.heap.size)) ∧ w'.ownsMap Tryz.prog 9 (plainElem Tryz.prog 9) w.heap.size full.length (mapOf full) ∧ Below w.heap.size w w' := by
  have HV := Lib.hid hv
  have hmk := run_makeHint
  clear hv
  refine callsIn_of_wp_marks Tryz.func69 rfl trivial ?_ rfl
  simp only [Tryz.ntmps69, List.size_toArray, List.length_cons, List.length_nil, Nat.reduceAdd, Nat.reduceSub, Array.replicate_succ, Array.replicate_zero, List.push_toArray, List.append_toArray, List.nil_append, List.cons_append]
  gi_wp2_with (refine ⟨trivial, ?_⟩; gi_at_call 119; refine (backward_in _ _ _ _ _).mono ?_; rintro e w' ⟨rfl, rfl⟩)
  have hB0 : Below w.heap.size w (((w.alloc (.map #[] 0)).alloc (.cells #[.map (some w.heap.size)] 105)).alloc (.cells #[.slice p l.length cap] 42)) :=
    (((Below.refl _ w).alloc (Nat.le_refl _) _).alloc (by simp) _).alloc (by simp; omega) _
  have hb1 : Boxed (((w.alloc (.map #[] 0)).alloc (.cells #[.map (some w.heap.size)] 105)).alloc (.cells #[.slice p l.length cap] 42)) (w.heap.size + 1) 105 (.map (some w.heap.size)) := by
    have := (Boxed.new (w.alloc (.map #[] 0)) 105 (.map (some w.heap.size))).alloc (.cells #[.slice p l.length cap] 42)
    rwa [World.size_alloc] at this
  have hb2 : Boxed (((w.alloc (.map #[] 0)).alloc (.cells #[.map (some w.heap.size)] 105)).alloc (.cells #[.slice p l.length cap] 42)) (w.heap.size + 2) 42 (.slice p l.length cap) := by
    have := Boxed.new ((w.alloc (.map #[] 0)).alloc (.cells #[.map (some w.heap.size)] 105)) 42 (.slice p l.length cap)
    rwa [World.size_alloc, World.size_alloc] at this
  have hm0 : World.ownsMap (((w.alloc (.map #[] 0)).alloc (.cells #[.map (some w.heap.size)] 105)).alloc (.cells #[.slice p l.length cap] 42)) Tryz.prog 9 (plainElem (H := Unit) Tryz.prog 9) w.heap.size 0 (.map []) :=
    ((World.ownsMap_made w Tryz.prog 9 (plainElem Tryz.prog 9)).alloc _).alloc _
  have hsz : (((w.alloc (.map #[] 0)).alloc (.cells #[.map (some w.heap.size)] 105)).alloc (.cells #[.slice p l.length cap] 42)).heap.size = w.heap.size + 3 := by simp
  change Code.wpIn _ _ _ _ _ _ (((w.alloc (.map #[] 0)).alloc (.cells #[.map (some w.heap.size)] 105)).alloc (.cells #[.slice p l.length cap] 42))
  generalize (((w.alloc (.map #[] 0)).alloc (.cells #[.map (some w.heap.size)] 105)).alloc (.cells #[.slice p l.length cap] 42)) = W0 at *
  refine wpIn_rangeFunc_ownH rfl (by decide) (gf := 154) (lb := #[.pointer (some ⟨w.heap.size + 1 + 1, 0, none⟩)]) rfl trivial (enters_of Tryz.func154 (by kernel_rfl) rfl)
    (back_stops (fun x : Sm => x.1) full 3 (by decide) (w.heap.size + 1 + 1) p cap l hl hfull w HV.out W0 (by omega) hB0 hb2.cell) KB.trans (KB.putObj (by omega) (by omega)) (Below.refl _ _) (fun _ => rfl)
    (BodAt w) (fun _ _ _ => False) ?own (fun _ _ _ _ _ hs _ _ => hs) ⟨hb1, hm0, hB0, by omega⟩
    (fun x a' W => ∃ b, W0.heap.size ≤ b ∧ W.heap[b]? = some (.cells #[.string (mkB x.1.1.name), .string (mkB x.1.1.body)] 113 (0, 0)) ∧
      a' = { tmps := #[.slice p l.length cap, undef, .map none, .pointer (some ⟨w.heap.size + 1, 0, none⟩), undef, .pointer (some ⟨b, 0, none⟩), .slice p l.length cap, .int .i64 l.length, .map (some w.heap.size), .slice p l.length cap, .func (.func 154) #[] #[.pointer (some ⟨w.heap.size + 1 + 1, 0, none⟩)], .int .i64 (x.1.2 : Int), .agg #[.string (mkB x.1.1.name), .string (mkB x.1.1.body)], undef, undef, undef, undef, undef, undef, undef], defers := [] }) ?ax ?assign ?body ?done ?stop
  case own =>
    intro pre A B row h hg hr
    have hrow : ∀ k, row = some k → w.heap.size + 3 ≤ k := fun k e => by have := (hr k e).1; omega
    exact ⟨h.box.kept hg (fun e => by have := hrow _ e.symm; omega), h.own.kept hg (fun e => by have := hrow _ e.symm; omega), h.below.grown hg h.below.size (fun k e => by have := hrow _ e; omega), Nat.le_trans h.size hg.size⟩
  case ax =>
    intro x a' _ A B row h hg hr
    obtain ⟨b, h1, h2, h3⟩ := h
    refine ⟨b, h1, (hg.block b (Array.getElem?_eq_some_iff.1 h2).1 (fun e => ?_)).trans h2, h3⟩
    obtain ⟨o, ho, hc⟩ := (hr b e.symm).2
    rw [h2] at ho
    cases ho
    cases hc
  case assign =>
    intro lp pre x W K hI hK
    dsimp only [encF]
    gi_wp2
    refine hK _ _ ?_ ?_ ?_ ?_
    · exact KeepsFrom.of_grownBy (World.grownBy_alloc W _ none) (by simp)
    · exact ⟨(Below.refl _ W).alloc hI.below.size _, Below.heap_alloc _ _ _ (by have := hI.size; omega)⟩
    · exact ⟨hI.box.alloc _, hI.own.alloc _, hI.below.alloc hI.below.size _, by have := hI.size; simp; omega⟩
    · exact ⟨W.heap.size, by have := hI.size; omega, World.alloc_heap_new W _, rfl⟩
  case body =>
    rintro lp pre x a' W hlp _ hI ⟨b, hb, hcell, rfl⟩ hlen
    have hmx : Tryz.prog.follows .mixedOrders = true := by kernel_rfl
    have hx1 := x.2.1
    have hx2 := x.2.2
    have HM : Hid (∀ W1, Below W.heap.size W W1 → ∃ w2, (Instr.mapUpdate 105 (.map (some w.heap.size)) (.string (mkB (upS x.1.1.name))) (.string (mkB x.1.1.body))).run Tryz.prog W1 = .ok () w2 ∧
        w2.ownsMap Tryz.prog 9 (plainElem Tryz.prog 9) w.heap.size (pre.length + 1) (mapOf (pre ++ [x])) ∧ W1.grownBy w2 (some w.heap.size)) := Lib.hid (fun W1 h1 => by
      rw [mapOf_snoc]
      exact (own_below hI.own h1).update (string_keyed Tryz.underlying9) Tryz.underlying105 (by unfold maxLen; omega) (Go.WideMaps.keyOf_string_mk Tryz.underlying9 (by rw [mkB_size]; unfold upS maxLen; rw [List.length_map]; omega)) (plainElem_string Tryz.underlying9 (by rw [mkB_size]; unfold maxLen; omega)))
    have UP := Lib.hid (fun W => implUpper_any (mkB x.1.1.name) W (by rw [mkB_size]; unfold maxLen; omega))
    rw [mkB_list] at UP
    change Hid (∀ W, Calls Tryz.prog _ _ W fun e w' => e = .returned (.string (mkB (upS x.1.1.name))) ∧ _) at UP
    have HC := Lib.hid hcell
    obtain ⟨c1, c2⟩ := cells_of_two hcell
    have c0 := hI.box.cell
    have HI := Lib.hid hI
    have FIN : Hid (∀ w1 w2, Below W.heap.size W w1 → w2.ownsMap Tryz.prog 9 (plainElem Tryz.prog 9) w.heap.size (pre.length + 1) (mapOf (pre ++ [x])) → w1.grownBy w2 (some w.heap.size) →
        KeepsFrom W0.heap.size W w2 ∧ KB w.heap.size (w.heap.size + 1 + 1) W w2 ∧ BodAt w (pre ++ [x]) w2) := Lib.hid (fun w1 w2 h1 h2 h3 => by
      have hgW : W.grownBy w1 none := ⟨h1.os, h1.tape, h1.output, h1.size, fun k hk _ => h1.block k hk⟩
      have hz := hI.size
      have hz1 := h1.size
      have hBN : Below w.heap.size w1 w2 := (Below.refl _ w1).grown h3 (by omega) (fun k e => by cases e; exact Nat.le_refl _)
      refine ⟨(KeepsFrom.of_grownBy hgW (by simp)).trans (KeepsFrom.of_grownBy h3 (fun j e => by cases e; omega)), ⟨(h1.mono hI.below.size).trans hBN, (h3.block _ (by omega) (fun e => by have := Option.some.inj e; omega)).trans (h1.block _ (by omega))⟩, ?_⟩
      exact ⟨(hI.box.kept hgW (by simp)).kept h3 (fun e => by have := Option.some.inj e; omega), by rw [List.length_append, List.length_singleton]; exact h2, (hI.below.trans (h1.mono hI.below.size)).trans hBN, by have := h3.size; omega⟩)
    generalize mkB (upS x.1.1.name) = KN at HM UP
    generalize mkB x.1.1.name = nm at UP HC c1 ⊢
    generalize mkB x.1.1.body = bd at HM HC c2 ⊢
    clear hI hcell hx1 hx2
    gi_wp2
    have hl1 : w.heap.size + 1 < W.heap.size := by have := HI.out.size; omega
    have hl2 : b < W.heap.size := (Array.getElem?_eq_some_iff.1 HC.out).1
    gi_region_with_o (refine ⟨trivial, ?_⟩; gi_at_call 81; refine (CallsIn.inRound lp (callsIn_wide.2 (UP.out _))).mono ?_; rintro e w1 ⟨rfl, hB1⟩; have hB2 : Below W.heap.size W w1 := ((Below.refl _ W).drew).trans hB1; have d0 := (hB2.cell (p := ⟨w.heap.size + 1, 0, none⟩) hl1).trans c0; have d2 := (hB2.cell (p := ⟨b, 1, none⟩) hl2).trans c2; obtain ⟨w2, hrun, hown2, hg2⟩ := HM.out w1 hB2)
    all_goals gi_wp2
    all_goals exact FIN.out _ _ hB2 hown2 hg2
  case done =>
    rintro D ys W hD rfl hI hK
    have hc := hI.box.cell
    gi_wp2
    refine ⟨by simp, .inl ⟨_, _, rfl, run_takeDeferred hK, ?_⟩⟩
    exact ⟨_, results_tmp rfl _ _ _, rfl, hI.own.kept (grownBy_putObj' W D _) (fun e => by cases e; omega), hI.below.trans (belowK_b (w := w) (Nat.le_refl _) W D _ _ (by omega) hK rfl rfl)⟩
  case stop =>
    rintro D c pre W _ _ h _
    exact h.elim
end Go.Proofs.YtgebkpnieailbaaGreatDoor

/-
  The first field of a name: impl's BodyOf.
-/
namespace Go.Proofs.YtgebkpnieailbaaGreatDoor
set_option linter.unusedVariables false
open Go.RowKit Go.Shelf Go.Maps

/-- What the map tells of a name. -/
theorem mapOf_rev (K : List UInt8) (z : DataW Unit) : ∀ r : List Sm,
    Maps.IsMap (mapOf r.reverse) ∧ Maps.has (mapOf r.reverse) (.string K) = (r.find? (fun x => upS x.1.1.name == K)).isSome ∧
    (mapOf r.reverse).atKey (.string K) z = match r.find? (fun x => upS x.1.1.name == K) with | some x => .lit (.string x.1.1.body) | none => z
  | [] => ⟨⟨[], rfl⟩, rfl, rfl⟩
  | x :: r => by
    obtain ⟨h1, h2, h3⟩ := mapOf_rev K z r
    rw [List.reverse_cons, mapOf_snoc]
    refine ⟨h1.put _ _, ?_⟩
    cases hk : upS x.1.1.name == K with
    | true =>
      obtain rfl := beq_iff_eq.1 hk
      rw [List.find?_cons_of_pos (by simp)]
      exact ⟨Maps.has_put_same h1 (by first | exact rfl | simp [WideAt.IsKeyLit]) _, Maps.atKey_put_same h1 (by first | exact rfl | simp [WideAt.IsKeyLit]) _ _⟩
    | false =>
      have hne : (Lit.string K) ≠ .string (upS x.1.1.name) := fun e => by
        injection e with e
        rw [e] at hk
        simp at hk
      rw [List.find?_cons_of_neg (by rw [hk]; simp), Maps.has_put_other hne, Maps.atKey_put_other hne]
      exact ⟨h2, h3⟩
theorem bodyOf_find (name : List UInt8) : ∀ l : List Fl, bodyOf name l = (l.find? (fun f => upS f.name == upS name)).map (·.body)
  | [] => rfl
  | f :: r => by
    rw [bodyOf]
    unfold sameB
    cases h : upS f.name == upS name with
    | true => rw [List.find?_cons_of_pos (by exact h)]; rfl
    | false => rw [List.find?_cons_of_neg (by rw [h]; simp), if_neg (by simp), bodyOf_find name r]
theorem find_val (P : Fl → Bool) : ∀ r : List Sm, (r.find? (fun x => P x.1.1)).map (·.1.1) = (r.map (·.1.1)).find? P
  | [] => rfl
  | x :: r => by
    rw [List.map_cons]
    cases h : P x.1.1 with
    | true => rw [List.find?_cons_of_pos (by exact h), List.find?_cons_of_pos h]; rfl
    | false => rw [List.find?_cons_of_neg (by rw [h]; simp), List.find?_cons_of_neg (by rw [h]; simp), find_val P r]
theorem full_rev {l : List Fl} {full : List Sm} (h : full.map (·.1) = backL l l.length) : full.reverse.map (·.1.1) = l := by
  have h1 : full.reverse.map (·.1) = l.zipIdx := by
    rw [List.map_reverse, h]
    unfold backL
    rw [List.reverse_reverse, List.take_of_length_le (by simp)]
  have h2 : full.reverse.map (·.1.1) = (full.reverse.map (·.1)).map (·.1) := by rw [List.map_map]; rfl
  rw [h2, h1]
  simp
/-- The look-up tells the first field of the name. -/
theorem mapOf_tells {l : List Fl} {full : List Sm} (h : full.map (·.1) = backL l l.length) (name : List UInt8) :
    Maps.has (mapOf full) (.string (upS name)) = (bodyOf name l).isSome ∧ (mapOf full).atKey (.string (upS name)) (.lit (.string [])) = .lit (.string ((bodyOf name l).getD [])) := by
  have h1 := mapOf_rev (upS name) (.lit (.string [])) full.reverse
  rw [List.reverse_reverse] at h1
  have h2 := find_val (fun f => upS f.name == upS name) full.reverse
  rw [full_rev h] at h2
  rw [bodyOf_find, ← h2]
  obtain ⟨_, h3, h4⟩ := h1
  rw [h3, h4]
  cases full.reverse.find? (fun x => upS x.1.1.name == upS name) with
  | none => exact ⟨rfl, rfl⟩
  | some x => exact ⟨rfl, rfl⟩

theorem full_exists {l : List Fl} (h : ∀ f ∈ l, f.name.length ≤ 8388608 ∧ f.body.length ≤ 8388608) : ∃ full : List Sm, full.map (·.1) = backL l l.length := by
  refine ⟨(backL l l.length).attachWith (fun x => x.1.name.length ≤ 8388608 ∧ x.1.body.length ≤ 8388608) (fun x hx => ?_), ?_⟩
  · refine h _ ?_
    unfold backL at hx
    rw [List.take_of_length_le (by simp), List.mem_reverse] at hx
    exact List.fst_mem_of_mem_zipIdx hx
  · exact List.attachWith_map_subtype_val _

theorem zeroStr (w : World) : (zeroValue 9).run Tryz.prog w = .ok (.string ⟨#[]⟩) w := by kernel_rfl

set_option maxRecDepth 100000 in
set_option maxHeartbeats 1000000 in
theorem implBody_is : BodyIs := by
  intro v l s w hv hs hput hl
  obtain ⟨full, hfull⟩ := full_exists (l := l) (fun f hf => by have := putL_mem hf; omega)
  obtain ⟨p, cap, rfl⟩ := hv.slice
  have HB := Lib.hid (callsIn_wide.1 (bodies_in p cap l full hl hfull w hv))
  have UP := Lib.hid (fun W => implUpper_any s W (by unfold maxLen; omega))
  obtain ⟨ht1, ht2⟩ := mapOf_tells hfull s.data.toList
  have hs2 : s.data.toList.length = s.size := by simp
  have hkey := Go.WideMaps.keyOf_string_mk (P := Tryz.prog) Tryz.underlying9 (s := mkB (upS s.data.toList)) (by rw [mkB_size]; unfold upS maxLen; rw [List.length_map]; omega)
  rw [mkB_list] at hkey
  change Hid (∀ W, Calls Tryz.prog _ _ W fun e w' => e = .returned (.string (mkB (upS s.data.toList))) ∧ _) at UP
  generalize bodyOf s.data.toList l = R at ht1 ht2 ⊢
  generalize upS s.data.toList = K at ht1 ht2 hkey UP
  generalize mkB K = KB at hkey UP
  have T1 := Lib.hid ht1
  have T2 := Lib.hid ht2
  clear ht1 ht2 hv hput
  go_enter Tryz.func29, Tryz.ntmps29
  go_wp2_with fail
  refine HB.out.mono ?_
  rintro e w1 ⟨rfl, hown, hB1⟩
  go_wp2_with fail
  refine (UP.out _).mono ?_
  rintro e w2 ⟨rfl, hB2⟩
  have hown2 := own_below hown hB2
  have HBB := Lib.hid (hB1.trans (hB2.mono hB1.size))
  clear hown hB1 hB2
  go_wp2_with (first | (at_lookup; refine wpList_lookup_own_ok _ rfl _ _ 105 rfl 9 9 (string_keyed Tryz.underlying9) Tryz.underlying105 (plainElem Tryz.prog 9) (zeroStr _) (.lit (.string [])) [] (plainElem_string Tryz.underlying9 (by decide)) w.heap.size full.length (mapOf full) rfl hown2 _ _ rfl hkey ?_; intro v ps hv; rw [T1.out]; rw [T2.out] at hv; obtain ⟨c, rfl, hc, _⟩ := plainElem_string_inv Tryz.underlying9 hv))
  have hcc : c.data.toList = R.getD [] := by
    have h1 := congrArg Prod.fst hc
    injection h1 with h1
    injection h1 with h1
    exact h1.symm
  have hcm : c = mkB (R.getD []) := by
    apply ByteArray.ext
    apply Array.ext'
    exact hcc
  subst hcm
  go_ret2
  refine ⟨?_, HBB.out⟩
  cases R with
  | none => rfl
  | some x => rfl
end Go.Proofs.YtgebkpnieailbaaGreatDoor

/-
  What a step may have turned: one block of the call's own, or nothing that was there.
-/
namespace Go.Proofs.YtgebkpnieailbaaGreatDoor
set_option linter.unusedVariables false
open Go.RowKit

theorem grownBy_one (w : World) (g j : Nat) (u : Value) : w.grownBy (w.setCell ⟨g, j, none⟩ u) (some g) :=
  ⟨rfl, rfl, rfl, by simp [World.setCell], fun k _ hn => Below.heap_setCell _ _ _ _ (by intro e; apply hn; rw [e])⟩
theorem grownBy_trans {a b c : World} {row : Option Nat} (h : a.grownBy b row) (k : b.grownBy c row) : a.grownBy c row :=
  ⟨k.os.trans h.os, k.tape.trans h.tape, k.output.trans h.output, Nat.le_trans h.size k.size, fun j hj hn => (k.block j (Nat.lt_of_lt_of_le hj h.size) hn).trans (h.block j hj hn)⟩
theorem grownBy_drewN {a b : World} {row : Option Nat} (h : a.grownBy b row) (n : Nat) : a.grownBy (b.drewN n) row := ⟨h.os, h.tape, h.output, h.size, h.block⟩

theorem grownBy_refl (w : World) (row : Option Nat) : w.grownBy w row := ⟨rfl, rfl, rfl, Nat.le_refl _, fun _ _ _ => rfl⟩
theorem grownBy_below {a w w' : World} {row : Option Nat} (h : a.grownBy w row) (hb : Below w.heap.size w w') : a.grownBy w' row :=
  ⟨hb.os.trans h.os, hb.tape.trans h.tape, hb.output.trans h.output, Nat.le_trans h.size hb.size, fun k hk hn => (hb.block k (by have := h.size; omega)).trans (h.block k hk hn)⟩
theorem grownBy_set {a w : World} {g : Nat} (h : a.grownBy w (some g)) (j : Nat) (u : Value) : a.grownBy (w.setCell ⟨g, j, none⟩ u) (some g) :=
  ⟨h.os, h.tape, h.output, by simpa [World.setCell] using h.size, fun k hk hn => (Below.heap_setCell _ _ _ _ (by intro e; apply hn; rw [e])).trans (h.block k hk hn)⟩
theorem row_below {w w' : World} {B : Nat} {e : TypeId} {n : Nat} {v : Value} {xs : List Value} (h : w.ownsRow B e 1 v n xs) (hb : Below w.heap.size w w') : w'.ownsRow B e 1 v n xs :=
  h.kept (row := none) ⟨hb.os, hb.tape, hb.output, hb.size, fun k hk _ => hb.block k hk⟩ (by
    cases hv : v.ownBlock with
    | none => exact .inl rfl
    | some g => exact .inr (by simp))
/-- A row that was there ahead of another one stays as it is when the other one is written. -/
theorem row_ahead {w w' wA : World} {B B3 : Nat} {e e3 : TypeId} {v v3 : Value} {n n3 : Nat} {xs xs3 : List Value} (h : w.ownsRow B e 1 v n xs) (hA : wA.ownsRow B e 1 v n xs) (h3 : w.ownsRow B3 e3 1 v3 n3 xs3) (hB : wA.heap.size ≤ B3) (hg : w.grownBy w' v3.ownBlock) : w'.ownsRow B e 1 v n xs := by
  refine h.kept hg ?_
  cases hv : v.ownBlock with
  | none => exact .inl rfl
  | some k =>
    refine .inr (fun e2 => ?_)
    have h1 := (hA.lt k hv).2
    have h2 := (h3.lt k e2.symm).1
    omega
/-- .. and so does one that was made behind it. -/
theorem row_behind {w w' wA : World} {B B3 : Nat} {e e3 : TypeId} {v v3 : Value} {n n3 : Nat} {xs xs3 : List Value} (h : w.ownsRow B e 1 v n xs) (hA : wA.ownsRow B3 e3 1 v3 n3 xs3) (hB : wA.heap.size ≤ B) (hg : w.grownBy w' v3.ownBlock) : w'.ownsRow B e 1 v n xs := by
  refine h.kept hg ?_
  cases hv : v.ownBlock with
  | none => exact .inl rfl
  | some k =>
    refine .inr (fun e2 => ?_)
    have h1 := (h.lt k hv).1
    have h2 := (hA.lt k e2.symm).2
    omega
theorem below_row {w0 w w' : World} {B B3 : Nat} {e3 : TypeId} {v3 : Value} {n3 : Nat} {xs3 : List Value} (hb : Below B w0 w) (h3 : w.ownsRow B3 e3 1 v3 n3 xs3) (hB : B ≤ B3) (hs : B ≤ w.heap.size) (hg : w.grownBy w' v3.ownBlock) : Below B w0 w' :=
  hb.grown hg hs (fun k e => Nat.le_trans hB (h3.lt k e).1)
/-- A row that lies behind block g stays behind an act on g alone. -/
theorem row_stay {wr w1 : World} {g B : Nat} {e : TypeId} {v : Value} {n : Nat} {xs : List Value} (hlt : g < B) (hrow : wr.ownsRow B e 1 v n xs) (hg : wr.grownBy w1 (some g)) : w1.ownsRow B e 1 v n xs := by
  refine hrow.kept hg ?_
  cases hv : v.ownBlock with
  | none => exact .inl rfl
  | some k =>
    refine .inr (fun e2 => ?_)
    have e3 := Option.some.inj e2
    have := (hrow.lt k hv).1
    omega
/-- What an append to such a row leaves. -/
theorem app_stay {w wr w1 : World} {g : Nat} {e : TypeId} {v : Value} {n : Nat} {xs : List Value} {tmp : Obj} (hgw : w.grownBy wr (some g)) (hlt : g < w.heap.size)
    (hrow : wr.ownsRow w.heap.size e 1 v n xs) (hgrow : (wr.alloc tmp).grownBy w1 v.ownBlock) : w1.heap[g]? = wr.heap[g]? ∧ w.grownBy w1 (some g) := by
  have hs := hgw.size
  have hb : ∀ k, k < w.heap.size → w1.heap[k]? = wr.heap[k]? := fun k hk => by
    rw [hgrow.block k (by simp; omega) (fun e' => by have := (hrow.lt k e'.symm).1; omega)]
    exact Below.heap_alloc _ _ _ (by omega)
  have hsz : wr.heap.size ≤ w1.heap.size := by have := hgrow.size; simp at this; omega
  exact ⟨hb g hlt, ⟨hgrow.os.trans hgw.os, hgrow.tape.trans hgw.tape, hgrow.output.trans hgw.output, Nat.le_trans hs hsz, fun k hk hn => (hb k hk).trans (hgw.block k hk hn)⟩⟩
end Go.Proofs.YtgebkpnieailbaaGreatDoor

/-
  An append to a row of the call's own, where another such row stands beside: which block it lies in behind. (XTwo's law, for any elements.)
-/
namespace Go.Proofs.YtgebkpnieailbaaGreatDoor
set_option linter.unusedVariables false
open Go.RowKit

theorem append_whereG {P : Program} (w : World) (base : Nat) (t ty e : TypeId) (i : TypeInfo) (z : Value) (size bytes : Nat) (ht : P.underlying t = some (.slice e)) (hi : P.info? e = some i) (hz : i.zero = some z)
    (hsize : i.size = size) (hby : i.bytes = bytes) (hzs : z.cells.size = size) (hsz : 0 < size) (hb64 : bytes ≤ 4096) (v : Value) (n : Nat) (xs : List Value) (hown : w.ownsRow base e size v n xs)
    (a : Addr) (m c : Nat) (news : List Value) (hl : news.length = m * size) (hnews : ∀ j u, news[j]? = some u → w.cell? (a.add j) = some u) (h1 : ∀ u ∈ news, u.oneCell' = true)
    (hsmall : n + m ≤ 1000000000) (hbase : base ≤ w.heap.size) :
    ∃ v' w', (Builtin.append_ #[t, t] ty #[v, .slice (some a) m c]).run P w = .ok v' w' ∧ w'.ownsRow base e size v' (n + m) (xs ++ news) ∧ w.grownBy w' v.ownBlock ∧
      (∀ g, v'.ownBlock = some g → v.ownBlock = some g ∨ w.heap.size ≤ g) := by
  have hbb : (n + m) * bytes ≤ 140737488355328 := by
    have : (n + m) * bytes ≤ 1000000000 * 4096 := Nat.mul_le_mul hsmall hb64
    omega
  obtain ⟨v', w', hr, h2, h3, _⟩ := run_append_own (P := P) w base t ty e i z size bytes ht hi hz hsize hby hzs hsz v n xs hown a m c news hl hnews h1 (by unfold maxLen; omega) hbb hbase
  refine ⟨v', w', hr, h2, h3, fun g hg => ?_⟩
  rcases hown.2 with ⟨rfl, rfl⟩ | ⟨g0, cap, cur, rfl, hbg, hgg, hnc, hcm, hcs, htake⟩
  · have hx : xs = [] := List.eq_nil_of_length_eq_zero (by simpa using hown.1)
    subst hx
    obtain ⟨v2, w2, hr2, k2, _, _⟩ := run_append_own (P := P) w w.heap.size t ty e i z size bytes ht hi hz hsize hby hzs hsz (.slice none 0 0) 0 [] (World.ownsRow_nil _ _ _ _) a m c news hl hnews h1 (by unfold maxLen; omega) hbb (Nat.le_refl _)
    rw [hr] at hr2
    injection hr2 with e1 e2
    subst e1
    subst e2
    exact .inr (k2.lt g hg).1
  · subst hsize
    by_cases hroom : n + m ≤ cap
    · have hfit : n * i.size + news.length ≤ cur.size := by
        rw [hcs, hl, ← Nat.add_mul]
        exact Nat.mul_le_mul_right _ hroom
      have hr2 := run_append_room (P := P) w t ty e i ht hi g0 n cap cur hgg a m c news hl hnews h1 hroom hfit
      rw [hr] at hr2
      injection hr2 with e1 _
      subst e1
      exact .inl hg
    · have hr2 := run_append_grow (P := P) w t ty e i z ht hi hz ⟨g0, 0, none⟩ n cap xs hown.1 (hown.cells (g := g0) rfl) a m c news hl hnews (by omega) (by omega) (growslice_fits (by omega) (by rw [hby]; exact hbb))
      rw [hr] at hr2
      injection hr2 with e1 _
      subst e1
      right
      have : some w.heap.size = some g := hg
      rw [Option.some.inj this]
      exact Nat.le_refl _

theorem wpList_append_whereG {P : Program} {ops : Array Oper} {rest : List Oper} {o : Oper} {act : Act} {w : World} {Q : Exit → Act → World → Prop} (hgd : o.guard = none) (sl x : Operand) (t : TypeId)
    (ho : o.op = .call { callee := .builtin .append, args := #[sl, x], argTypes := #[t, t] })
    (base : Nat) (e : TypeId) (i : TypeInfo) (z : Value) (size bytes : Nat) (ht : P.underlying t = some (.slice e)) (hi : P.info? e = some i) (hz : i.zero = some z) (hsize : i.size = size) (hby : i.bytes = bytes) (hzs : z.cells.size = size) (hsz : 0 < size) (hb64 : bytes ≤ 4096)
    (v : Value) (n : Nat) (xs : List Value) (hs : act.eval sl = v) (hown : w.ownsRow base e size v n xs)
    (ad : Addr) (m c : Nat) (news : List Value) (hx : act.eval x = .slice (some ad) m c) (hl : news.length = m * size) (hnews : ∀ j u, news[j]? = some u → w.cell? (ad.add j) = some u) (h1 : ∀ u ∈ news, u.oneCell' = true)
    (hsmall : n + m ≤ 1000000000) (hbase : base ≤ w.heap.size)
    (h : ∀ v' w', w'.ownsRow base e size v' (n + m) (xs ++ news) → w.grownBy w' v.ownBlock → (∀ g, v'.ownBlock = some g → v.ownBlock = some g ∨ w.heap.size ≤ g) → wpList P ops Q rest (act.put o.dst v') w') : wpList P ops Q (o :: rest) act w := by
  refine wpList_plain hgd fun _ hK => ?_
  obtain ⟨v', w', hr, h2, h3, h4⟩ := append_whereG (P := P) w base t o.type e i z size bytes ht hi hz hsize hby hzs hsz hb64 v n xs hown ad m c news hl hnews h1 hsmall hbase
  unfold Oper.wp execOp
  simp only [ho, resolve, invoke, builtin, Sem.run_bind, Sem.run_pure, Result.andThen_ok, List.map_toArray, List.map_cons, List.map_nil, hs, hx, hr]
  exact hK _ _ (h v' w' h2 h3 h4)
/-- Another row stays behind such an append. -/
theorem row_staysG {w w' : World} {B2 k2 : Nat} {e2 : TypeId} {v1 v2 : Value} {n2 : Nat} {xs2 : List Value} (h2 : w.ownsRow B2 e2 k2 v2 n2 xs2) (hg : w.grownBy w' v1.ownBlock) (hne : ∀ g, v1.ownBlock = some g → v2.ownBlock ≠ some g) : w'.ownsRow B2 e2 k2 v2 n2 xs2 :=
  h2.kept hg (by
    cases h : v2.ownBlock with
    | none => exact .inl rfl
    | some g =>
      right
      intro e
      exact hne g e.symm h)
/-- Two rows of the call's own in two blocks. -/
def Apart (v1 v2 : Value) : Prop := ∀ g, v1.ownBlock = some g → v2.ownBlock ≠ some g
theorem Apart.more {w : World} {v v' v2 : Value} {B2 k2 n2 : Nat} {e2 : TypeId} {xs2 : List Value} (h : Apart v v2) (h2 : w.ownsRow B2 e2 k2 v2 n2 xs2) (hw : ∀ g, v'.ownBlock = some g → v.ownBlock = some g ∨ w.heap.size ≤ g) : Apart v' v2 := fun g hg hx => by
  rcases hw g hg with h3 | h3
  · exact h g h3 hx
  · have := (h2.lt g hx).2
    omega
end Go.Proofs.YtgebkpnieailbaaGreatDoor

/-
  Rows of the call's own: small lemmas.
-/
namespace Go.Proofs.YtgebkpnieailbaaGreatDoor
set_option linter.unusedVariables false
open Go.RowKit

theorem cells2_0 (w : World) (a b : Value) (T : TypeId) : (w.alloc (.cells #[a, b] T)).cell? ⟨w.heap.size, 0, none⟩ = some a := by
  rw [World.cell?, heap_alloc_new]
  rfl
theorem cells2_1 (w : World) (a b : Value) (T : TypeId) : (w.alloc (.cells #[a, b] T)).cell? ⟨w.heap.size, 1, none⟩ = some b := by
  rw [World.cell?, heap_alloc_new]
  rfl
theorem drop_cons {α : Type} (l : List α) (k : Nat) (h : k < l.length) : l.drop k = l[k] :: l.drop (k + 1) := List.drop_eq_getElem_cons h
theorem row_lat {w w' : World} {B k : Nat} {e : TypeId} {n : Nat} {v : Value} {xs : List Value} (h : w.ownsRow B e k v n xs) (hb : Below w.heap.size w w') : w'.ownsRow B e k v n xs :=
  h.kept (row := none) ⟨hb.os, hb.tape, hb.output, hb.size, fun k hk _ => hb.block k hk⟩ (by
    cases hv : v.ownBlock with
    | none => exact .inl rfl
    | some g => exact .inr (by simp))
theorem row_baseL {w : World} {base base' k : Nat} {e : TypeId} {v : Value} {n : Nat} {xs : List Value} (h : w.ownsRow base e k v n xs) (hb : base' ≤ base) : w.ownsRow base' e k v n xs := by
  obtain ⟨h1, h | ⟨g, cap, cur, h2, h3, h4⟩⟩ := h
  · exact ⟨h1, .inl h⟩
  · exact ⟨h1, .inr ⟨g, cap, cur, h2, Nat.le_trans hb h3, h4⟩⟩
theorem cell_two_new (w : World) (a b : Value) (T : TypeId) (g : Nat) (hg : g = w.heap.size) : ∀ j u, [a, b][j]? = some u → (w.alloc (.cells #[a, b] T)).cell? ((⟨g, 0, none⟩ : Addr).add j) = some u := by
  subst hg
  intro j u h
  match j, h with
  | 0, h => rw [← Option.some.inj h]; exact cells2_0 w a b T
  | 1, h => rw [← Option.some.inj h]; exact cells2_1 w a b T
  | j + 2, h => simp at h
theorem cellAt_str {w : World} {B : Nat} {e : TypeId} {g cap n : Nat} {l : List (List UInt8)} (h : w.ownsRow B e 1 (.slice (some ⟨g, 0, none⟩) n cap) n ((l.map mkB).map Value.string)) (k : Nat) (hk : k < l.length) (hn : n = l.length) : w.cell? ⟨g, k, none⟩ = some (.string (mkB (l[k]))) := by
  have := h.cellAt k (by omega)
  rw [this]
  simp [hk]
theorem row_slice {w : World} {B k : Nat} {e : TypeId} {v : Value} {n : Nat} {xs : List Value} (h : w.ownsRow B e k v n xs) : ∃ p cap, v = .slice p n cap := by
  rcases h with ⟨_, ⟨rfl, rfl⟩ | ⟨g, cap, cur, rfl, _⟩⟩
  · exact ⟨_, _, rfl⟩
  · exact ⟨_, _, rfl⟩
theorem row_slice1 {w : World} {B k : Nat} {e : TypeId} {v : Value} {n : Nat} {xs : List Value} (h : w.ownsRow B e k v n xs) (hn : 0 < n) : ∃ g cap, v = .slice (some ⟨g, 0, none⟩) n cap := by
  rcases h with ⟨_, ⟨rfl, rfl⟩ | ⟨g, cap, cur, rfl, _⟩⟩
  · omega
  · exact ⟨_, _, rfl⟩
end Go.Proofs.YtgebkpnieailbaaGreatDoor

/-
  A cell of three.
-/
namespace Go.Proofs.YtgebkpnieailbaaGreatDoor
set_option linter.unusedVariables false
open Go.RowKit

/-- A cell of three. -/
theorem new_three (w : World) (a b c : Value) (T : TypeId) : (w.alloc (.cells #[a, b, c] T)).heap[w.heap.size]? = some (.cells #[a, b, c] T (0, 0)) := by
  show (w.heap.push _)[w.heap.size]? = some _
  simp
theorem three_cells {W : World} {n : Nat} {T : TypeId} {a b c : Value} {fr : Nat × Nat} (h : W.heap[n]? = some (.cells #[a, b, c] T fr)) : W.cell? ⟨n, 0, none⟩ = some a ∧ W.cell? ⟨n, 1, none⟩ = some b ∧ W.cell? ⟨n, 2, none⟩ = some c := by
  refine ⟨?_, ?_, ?_⟩ <;> simp [World.cell?, h]
theorem three_free {W : World} {n : Nat} {T : TypeId} {a b c : Value} (h : W.heap[n]? = some (.cells #[a, b, c] T (0, 0))) : W.frozen? ⟨n, 0, none⟩ = false ∧ W.frozen? ⟨n, 1, none⟩ = false ∧ W.frozen? ⟨n, 2, none⟩ = false := by
  refine ⟨?_, ?_, ?_⟩ <;> simp [World.frozen?, h]
theorem set_three {W : World} {n : Nat} {T : TypeId} {a b c : Value} (h : W.heap[n]? = some (.cells #[a, b, c] T (0, 0))) (A B C : Value) :
    (((W.setCell ⟨n, 0, none⟩ A).setCell ⟨n, 1, none⟩ B).setCell ⟨n, 2, none⟩ C).heap[n]? = some (.cells #[A, B, C] T (0, 0)) := by
  have h1 := heap_setCell_same W n 0 #[a, b, c] T A h
  have h2 := heap_setCell_same _ n 1 _ T B h1
  have h3 := heap_setCell_same _ n 2 _ T C h2
  simpa using h3
theorem below_three {w W : World} {n B : Nat} (h : Below B w W) (hn : B ≤ n) (a b c : Value) : Below B w (((W.setCell ⟨n, 0, none⟩ a).setCell ⟨n, 1, none⟩ b).setCell ⟨n, 2, none⟩ c) :=
  ((h.setCell (p := ⟨n, 0, none⟩) hn _).setCell (p := ⟨n, 1, none⟩) hn _).setCell (p := ⟨n, 2, none⟩) hn _
theorem cell_three_new (w : World) (a b c : Value) (T : TypeId) (g : Nat) (hg : g = w.heap.size) : ∀ j u, [a, b, c][j]? = some u → (w.alloc (.cells #[a, b, c] T)).cell? ((⟨g, 0, none⟩ : Addr).add j) = some u := by
  subst hg
  intro j u h
  have e : (⟨w.heap.size, 0, none⟩ : Addr).add j = ⟨w.heap.size, j, none⟩ := by unfold Addr.add; split <;> simp_all
  rw [e]
  match j, h with
  | 0, h => rw [← Option.some.inj h, World.cell?, heap_alloc_new]; rfl
  | 1, h => rw [← Option.some.inj h, World.cell?, heap_alloc_new]; rfl
  | 2, h => rw [← Option.some.inj h, World.cell?, heap_alloc_new]; rfl
  | j + 3, h => simp at h
end Go.Proofs.YtgebkpnieailbaaGreatDoor

/-
  A slice at which addresses lie.
-/
namespace Go.Proofs.YtgebkpnieailbaaGreatDoor
set_option linter.unusedVariables false
open Go.RowKit

/-- A slice at which addresses lie. -/
def AdsAt (w : World) (v : Value) (l : List Ad) : Prop :=
  (l = [] ∧ ∃ p cap, v = .slice p 0 cap) ∨ ∃ g off cap, v = .slice (some ⟨g, off, none⟩) l.length cap ∧ g < w.heap.size ∧ ∀ k, (h : k < l.length) → w.cell? ⟨g, off + k * 3, none⟩ = some (.string (mkB l[k].name)) ∧ w.cell? ⟨g, off + k * 3 + 1, none⟩ = some (.string (mkB l[k].box)) ∧ w.cell? ⟨g, off + k * 3 + 2, none⟩ = some (.string (mkB l[k].host))
theorem ads_of_row {w : World} {B : Nat} {e : TypeId} {v : Value} {l : List Ad} (h : w.ownsRow B e 3 v l.length (adCells l)) : AdsAt w v l := by
  have h2 := h
  rcases h with ⟨h1, ⟨rfl, h0⟩ | ⟨g, cap, cur, rfl, hr⟩⟩
  · exact .inl ⟨List.eq_nil_of_length_eq_zero h0, _, _, rfl⟩
  · refine .inr ⟨g, 0, cap, rfl, (h2.lt g rfl).2, fun k hk => ?_⟩
    rw [Nat.zero_add, h2.cellAt (k * 3) (by omega), h2.cellAt (k * 3 + 1) (by omega), h2.cellAt (k * 3 + 2) (by omega)]
    exact adCells_at l k hk
theorem AdsAt.later {w w' : World} {v : Value} {l : List Ad} {B : Nat} (h : AdsAt w v l) (hb : Below B w w') (hB : w.heap.size ≤ B) : AdsAt w' v l := by
  rcases h with h | ⟨g, off, cap, h1, h2, h3⟩
  · exact .inl h
  · refine .inr ⟨g, off, cap, h1, Nat.lt_of_lt_of_le h2 hb.size, fun k hk => ?_⟩
    rw [hb.cell (p := ⟨g, off + k * 3, none⟩) (by show g < B; omega), hb.cell (p := ⟨g, off + k * 3 + 1, none⟩) (by show g < B; omega), hb.cell (p := ⟨g, off + k * 3 + 2, none⟩) (by show g < B; omega)]
    exact h3 k hk
theorem AdsAt.slice {w : World} {v : Value} {l : List Ad} (h : AdsAt w v l) : ∃ p cap, v = .slice p l.length cap := by
  rcases h with ⟨rfl, p, cap, rfl⟩ | ⟨g, off, cap, rfl, _⟩
  · exact ⟨p, cap, rfl⟩
  · exact ⟨_, cap, rfl⟩
theorem infoAd : (Tryz.prog.info? 195).map (fun i => (i.zero, i.size, i.bytes)) = some (some (.agg #[.string ⟨#[]⟩, .string ⟨#[]⟩, .string ⟨#[]⟩]), 3, 48) := by kernel_rfl
/-- The call hands back a slice that owns the addresses l; nothing that was there has turned. -/
def GivesAds (l : List Ad) (w : World) (e : Ending) (w' : World) : Prop :=
  ∃ v, e = .returned v ∧ w'.ownsRow w.heap.size 195 3 v l.length (adCells l) ∧ Below w.heap.size w w'
end Go.Proofs.YtgebkpnieailbaaGreatDoor

/-
  A byte of a text.
-/
namespace Go.Proofs.YtgebkpnieailbaaGreatDoor
set_option linter.unusedVariables false
open Go.RowKit

theorem byte_at (s : ByteArray) (k : Nat) (h : k < s.size) : s.data.toList.getD k 0 = s[k] := by
  rw [List.getD_eq_getElem?_getD, List.getElem?_eq_getElem (by simpa using h)]
  rfl
end Go.Proofs.YtgebkpnieailbaaGreatDoor

/-
  Words: the walk of spec's l03Has.
-/
namespace Go.Proofs.YtgebkpnieailbaaGreatDoor
set_option linter.unusedVariables false
open Go.RowKit

theorem ne_byte {a b : UInt8} (h : a ≠ b) : ((a.toNat : Int) == (b.toNat : Int)) = false := by
  rw [beq_eq_false_iff_ne]
  intro e
  exact h (UInt8.toNat_inj.1 (by omega))

set_option maxHeartbeats 400000 in
theorem has_any (s : ByteArray) (b : UInt8) (w : World) (hs : s.size ≤ 1000000000) :
    Calls Tryz.prog 144 #[.string s, .int .u8 b.toNat] w fun e w' => e = .returned (.bool (hasL b s.data.toList)) ∧ w' = w := by
  generalize hH : hasL b s.data.toList = H
  have HH := Lib.hid hH
  clear hH
  go_enter Tryz.func144, Tryz.ntmps144
  go_wp2
  go_loopw [5] (fun i wr => ∃ k : Nat, k ≤ s.size ∧ i = .int .i64 (k : Int) ∧ Hid (hasL b (s.data.toList.take k) = false) ∧ wr = w) (fun i _ => s.size - (intOf i).toNat)
  case atStart => exact ⟨0, by omega, rfl, Lib.hid rfl, rfl⟩
  case round =>
    obtain ⟨k, hk, rfl, HN, rfl⟩ := hrel
    have hlen : s.data.toList.length = s.size := by simp
    by_cases hlt : k < s.size
    · by_cases he : s[k] = b
      · have t1 : ((s[k].toNat : Int) == (b.toNat : Int)) = true := by rw [he, beq_iff_eq]
        have HT : Hid (H = true) := Lib.hid (by rw [← HH.out]; exact has_true b _ k (by omega) (by rw [byte_at s k hlt, he]))
        clear he hlen
        go_wp2_with fail
        go_ret
        exact ⟨by rw [HT.out]; rfl, rfl⟩
      · have t1 := ne_byte he
        have HN2 : Hid (hasL b (s.data.toList.take (k + 1)) = false) := Lib.hid (by
          rw [hasL_take b _ k (by omega), HN.out, byte_at s k hlt]
          simpa using he)
        clear he hlen
        go_wp2_with fail
        go_roundw
        case rel => exact ⟨k + 1, by omega, by go_num, HN2, trivial⟩
        case measure => simp [intOf]; omega
    · have HF : Hid (H = false) := Lib.hid (by
        have := HN.out
        rw [List.take_of_length_le (by omega), HH.out] at this
        exact this)
      go_wp2_with fail
      go_ret
      exact ⟨by rw [HF.out]; rfl, rfl⟩
end Go.Proofs.YtgebkpnieailbaaGreatDoor

/-
  Words: the walk of spec's l03Plain.
-/
namespace Go.Proofs.YtgebkpnieailbaaGreatDoor
set_option linter.unusedVariables false
open Go.RowKit

set_option maxHeartbeats 400000 in
theorem plain_any (s : ByteArray) (w : World) (hs : s.size ≤ 1000000000) :
    Calls Tryz.prog 145 #[.string s] w fun e w' => e = .returned (.bool (plainAll s.data.toList)) ∧ w' = w := by
  generalize hH : plainAll s.data.toList = H
  have HH := Lib.hid hH
  clear hH
  go_enter Tryz.func145, Tryz.ntmps145
  go_wp2
  go_loopw [3] (fun i wr => ∃ k : Nat, k ≤ s.size ∧ i = .int .i64 (k : Int) ∧ Hid ((s.data.toList.take k).all plainB = true) ∧ wr = w) (fun i _ => s.size - (intOf i).toNat)
  case atStart => exact ⟨0, by omega, rfl, Lib.hid rfl, rfl⟩
  case round =>
    obtain ⟨k, hk, rfl, HN, rfl⟩ := hrel
    have hlen : s.data.toList.length = s.size := by simp
    by_cases hlt : k < s.size
    · have hx : s[k].toNat < 256 := UInt8.toNat_lt _
      by_cases hin : 32 ≤ s[k].toNat ∧ s[k].toNat ≤ 126
      · have HN2 : Hid ((s.data.toList.take (k + 1)).all plainB = true) := Lib.hid (by
          rw [all_take plainB _ k (by omega), HN.out, byte_at s k hlt]
          unfold plainB
          rw [decide_eq_true hin]
          rfl)
        have IN := Lib.hid (fun w => in_yes (s[k].toNat : Int) 32 126 w (by omega) (by omega))
        clear hin hlen
        go_wp2_with fail
        refine (IN.out _).mono ?_
        rintro e w1 ⟨rfl, rfl⟩
        go_wp2_with fail
        go_roundw
        case rel => exact ⟨k + 1, by omega, by go_num, HN2, trivial⟩
        case measure => simp [intOf]; omega
      · have HT : Hid (H = false) := Lib.hid (by
          rw [← HH.out]
          refine all_false plainB _ k (by omega) ?_
          rw [byte_at s k hlt]
          unfold plainB
          rw [decide_eq_false hin])
        have IN := Lib.hid (fun w => in_no (s[k].toNat : Int) 32 126 w (by omega))
        clear hin hlen
        go_wp2_with fail
        refine (IN.out _).mono ?_
        rintro e w1 ⟨rfl, rfl⟩
        go_wp2_with fail
        go_ret
        exact ⟨by rw [HT.out]; rfl, rfl⟩
    · have HF : Hid (H = true) := Lib.hid (by
        have hall := HN.out
        rw [List.take_of_length_le (by omega)] at hall
        rw [← HH.out]
        exact hall)
      go_wp2_with fail
      go_ret
      exact ⟨by rw [HF.out]; rfl, rfl⟩
end Go.Proofs.YtgebkpnieailbaaGreatDoor

/-
  Words: the walk of spec's Quote.
-/
namespace Go.Proofs.YtgebkpnieailbaaGreatDoor
set_option linter.unusedVariables false
open Go.RowKit

theorem esc_take (l : List UInt8) (k : Nat) (h : k < l.length) : (l.take (k + 1)).flatMap escB = (l.take k).flatMap escB ++ escB (l.getD k 0) := by
  rw [List.take_add_one, List.flatMap_append, List.getD_eq_getElem?_getD, List.getElem?_eq_getElem h]
  simp

set_option maxRecDepth 100000 in
set_option maxHeartbeats 1000000 in
theorem specQuote_any (s : ByteArray) (w : World) (hs : s.size ≤ 67108864) :
    Calls Tryz.prog 139 #[.string s] w fun e w' => e = .returned (.string ⟨(quoteL s.data.toList).toArray⟩) ∧ Below w.heap.size w w' := by
  obtain ⟨i0, hi, hz0, hz1, hz2⟩ := info_parts infoByteJ
  go_enter Tryz.func139, Tryz.ntmps139
  go_wp2
  go_loopw [3, 4] (fun o i wr => ∃ (k : Nat) (L : List UInt8), k ≤ s.size ∧ i = .int .i64 (k : Int) ∧ Hid (L = 34 :: (s.data.toList.take k).flatMap escB) ∧ L.length ≤ 2 * k + 1 ∧ wr.ownsRow w.heap.size 5 1 o L.length (L.map bv) ∧ Below w.heap.size w wr) (fun _ i _ => s.size - (intOf i).toNat)
  case atStart => exact ⟨0, [34], by omega, rfl, Lib.hid rfl, by simp, World.ownsRow_lit w #[.int .u8 34] 1 (Nat.le_refl _) (by decide) rfl, (Below.refl _ _).alloc (Nat.le_refl _) _⟩
  case round =>
    obtain ⟨k, L, hk, rfl, HL, hLl, hown, hB⟩ := hrel
    have hlen : s.data.toList.length = s.size := by simp
    have hsz := hB.size
    by_cases hlt : k < s.size
    · have hst := esc_take s.data.toList k (by omega)
      rw [byte_at s k hlt] at hst
      by_cases h34 : s[k] = 34
      · have t1 : ((s[k].toNat : Int) == 34) = true := by rw [h34]; rfl
        have HST : Hid (L ++ [92] ++ [s[k]] = 34 :: (s.data.toList.take (k + 1)).flatMap escB) := Lib.hid (by
          rw [hst, HL.out]
          unfold escB
          rw [if_pos (.inl h34)]
          simp)
        clear hst h34 hlen
        go_wp2_with (first | (at_builtin; refine wpList_append_own _ rfl _ _ 22 rfl w.heap.size 5 i0 (.int .u8 0) 1 1 Tryz.underlying22 hi hz0 hz1 hz2 rfl (by decide) _ _ _ rfl (hown.alloc _) ⟨wr.heap.size, 0, none⟩ 1 1 [.int .u8 92] rfl rfl (cell_one_new _ _ _) (by simp [Value.oneCell']) (by unfold maxLen; omega) (by omega) (by simp; omega) ?_; intro v2 w2 hO2 hg2 _; have hB2 : Below w.heap.size w w2 := (hB.alloc hsz _).grown hg2 (by simp; omega) (fun k e => (hown.lt k e).1); have hsz2 := hB2.size) | (at_builtin; refine wpList_append_own _ rfl _ _ 22 rfl w.heap.size 5 i0 (.int .u8 0) 1 1 Tryz.underlying22 hi hz0 hz1 hz2 rfl (by decide) _ _ _ rfl (hO2.alloc _) ⟨w2.heap.size, 0, none⟩ 1 1 [.int .u8 (s[k].toNat : Int)] rfl rfl (cell_one_new _ _ _) (by simp [Value.oneCell']) (by unfold maxLen; omega) (by omega) (by simp; omega) ?_; intro v3 w3 hO3 hg3 _; have hB3 : Below w.heap.size w w3 := (hB2.alloc hsz2 _).grown hg3 (by simp; omega) (fun k e => (hO2.lt k e).1)))
        have hrow : w3.ownsRow w.heap.size 5 1 v3 (L ++ [92] ++ [s[k]]).length ((L ++ [92] ++ [s[k]]).map bv) := by
          have h := hO3
          simpa [bv, Nat.add_assoc] using h
        go_roundw
        case rel => exact ⟨k + 1, L ++ [92] ++ [s[k]], by omega, by go_num, HST, by simp; omega, hrow, hB3⟩
        case measure => simp [intOf]; omega
      · by_cases h92 : s[k] = 92
        · have t1 : ((s[k].toNat : Int) == 34) = false := by rw [h92]; rfl
          have t2 : ((s[k].toNat : Int) == 92) = true := by rw [h92]; rfl
          have HST : Hid (L ++ [92] ++ [s[k]] = 34 :: (s.data.toList.take (k + 1)).flatMap escB) := Lib.hid (by
            rw [hst, HL.out]
            unfold escB
            rw [if_pos (.inr h92)]
            simp)
          clear hst h34 h92 hlen
          go_wp2_with (first | (at_builtin; refine wpList_append_own _ rfl _ _ 22 rfl w.heap.size 5 i0 (.int .u8 0) 1 1 Tryz.underlying22 hi hz0 hz1 hz2 rfl (by decide) _ _ _ rfl (hown.alloc _) ⟨wr.heap.size, 0, none⟩ 1 1 [.int .u8 92] rfl rfl (cell_one_new _ _ _) (by simp [Value.oneCell']) (by unfold maxLen; omega) (by omega) (by simp; omega) ?_; intro v2 w2 hO2 hg2 _; have hB2 : Below w.heap.size w w2 := (hB.alloc hsz _).grown hg2 (by simp; omega) (fun k e => (hown.lt k e).1); have hsz2 := hB2.size) | (at_builtin; refine wpList_append_own _ rfl _ _ 22 rfl w.heap.size 5 i0 (.int .u8 0) 1 1 Tryz.underlying22 hi hz0 hz1 hz2 rfl (by decide) _ _ _ rfl (hO2.alloc _) ⟨w2.heap.size, 0, none⟩ 1 1 [.int .u8 (s[k].toNat : Int)] rfl rfl (cell_one_new _ _ _) (by simp [Value.oneCell']) (by unfold maxLen; omega) (by omega) (by simp; omega) ?_; intro v3 w3 hO3 hg3 _; have hB3 : Below w.heap.size w w3 := (hB2.alloc hsz2 _).grown hg3 (by simp; omega) (fun k e => (hO2.lt k e).1)))
          have hrow : w3.ownsRow w.heap.size 5 1 v3 (L ++ [92] ++ [s[k]]).length ((L ++ [92] ++ [s[k]]).map bv) := by
            have h := hO3
            simpa [bv, Nat.add_assoc] using h
          go_roundw
          case rel => exact ⟨k + 1, L ++ [92] ++ [s[k]], by omega, by go_num, HST, by simp; omega, hrow, hB3⟩
          case measure => simp [intOf]; omega
        · have t1 : ((s[k].toNat : Int) == 34) = false := ne_byte (b := 34) h34
          have t2 : ((s[k].toNat : Int) == 92) = false := ne_byte (b := 92) h92
          have HST : Hid (L ++ [s[k]] = 34 :: (s.data.toList.take (k + 1)).flatMap escB) := Lib.hid (by
            rw [hst, HL.out]
            unfold escB
            rw [if_neg (by simp [h34, h92])]
            simp)
          clear hst h34 h92 hlen
          go_wp2_with (first | (at_builtin; refine wpList_append_own _ rfl _ _ 22 rfl w.heap.size 5 i0 (.int .u8 0) 1 1 Tryz.underlying22 hi hz0 hz1 hz2 rfl (by decide) _ _ _ rfl (hown.alloc _) ⟨wr.heap.size, 0, none⟩ 1 1 [.int .u8 (s[k].toNat : Int)] rfl rfl (cell_one_new _ _ _) (by simp [Value.oneCell']) (by unfold maxLen; omega) (by omega) (by simp; omega) ?_; intro v3 w3 hO3 hg3 _; have hB3 : Below w.heap.size w w3 := (hB.alloc hsz _).grown hg3 (by simp; omega) (fun k e => (hown.lt k e).1)))
          have hrow : w3.ownsRow w.heap.size 5 1 v3 (L ++ [s[k]]).length ((L ++ [s[k]]).map bv) := by
            have h := hO3
            simpa [bv] using h
          go_roundw
          case rel => exact ⟨k + 1, L ++ [s[k]], by omega, by go_num, HST, by simp; omega, hrow, hB3⟩
          case measure => simp [intOf]; omega
    · have HQ : Hid (L ++ [34] = quoteL s.data.toList) := Lib.hid (by
        rw [HL.out, List.take_of_length_le (by omega)]
        rfl)
      clear hlen
      go_wp2_with (first | (at_builtin; refine wpList_append_own _ rfl _ _ 22 rfl w.heap.size 5 i0 (.int .u8 0) 1 1 Tryz.underlying22 hi hz0 hz1 hz2 rfl (by decide) _ _ _ rfl (hown.alloc _) ⟨wr.heap.size, 0, none⟩ 1 1 [.int .u8 34] rfl rfl (cell_one_new _ _ _) (by simp [Value.oneCell']) (by unfold maxLen; omega) (by omega) (by simp; omega) ?_; intro v3 w3 hO3 hg3 _; have hB3 : Below w.heap.size w w3 := (hB.alloc hsz _).grown hg3 (by simp; omega) (fun k e => (hown.lt k e).1)))
      have hrow : w3.ownsRow w.heap.size 5 1 v3 (L ++ [34]).length ((L ++ [34]).map bv) := by
        have h := hO3
        simpa [bv] using h
      have hback := rowJ_back (P := Tryz.prog) hrow 22 9 5 Tryz.underlying22 Tryz.underlying5 Tryz.underlying9
      rw [hback]
      go_wp2_with fail
      go_ret
      exact ⟨by rw [← HQ.out]; rfl, hB3⟩

end Go.Proofs.YtgebkpnieailbaaGreatDoor

/-
  The walk of spec.DecText: the decimal numeral.
-/
namespace Go.Proofs.YtgebkpnieailbaaGreatDoor
set_option linter.unusedVariables false
open Go.RowKit

def digAll (u : Nat) (acc : List UInt8) : List UInt8 := if u = 0 then acc else Lib.decDigits u ++ acc
theorem digAll_step (u : Nat) (acc : List UInt8) (hu : 0 < u) : digAll u acc = digAll (u / 10) (UInt8.ofNat (48 + u % 10) :: acc) := by
  unfold digAll
  rw [if_neg (by omega)]
  by_cases h : u < 10
  · rw [if_pos (by omega), Lib.decDigits, dif_pos h, show u % 10 = u by omega]; rfl
  · rw [if_neg (by omega), Lib.decDigits, dif_neg h]; simp
def tenDig : ByteArray := ⟨#[48, 49, 50, 51, 52, 53, 54, 55, 56, 57]⟩
theorem tenDig_at (d : Nat) (h : d < 10) : tenDig.extract d (d + 1) = ⟨#[UInt8.ofNat (48 + d)]⟩ := by
  have : d = 0 ∨ d = 1 ∨ d = 2 ∨ d = 3 ∨ d = 4 ∨ d = 5 ∨ d = 6 ∨ d = 7 ∨ d = 8 ∨ d = 9 := by omega
  rcases this with rfl | rfl | rfl | rfl | rfl | rfl | rfl | rfl | rfl | rfl <;> rfl

set_option maxRecDepth 100000 in
set_option maxHeartbeats 1000000 in
theorem decText_pos (n : Nat) (w : World) (hn : n ≤ 9223372036854775807) (h0 : 0 < n) :
    Calls Tryz.prog 140 #[.int .i64 n] w fun e w' => e = .returned (.string ⟨(Lib.itoa n).toArray⟩) ∧ w' = w := by
  have HV : Hid (Lib.itoa n = digAll n []) := Lib.hid (by unfold Lib.itoa digAll; rw [if_neg (by omega), if_neg (by omega)]; simp)
  have hne : ((n : Int) == 0) = false := by rw [beq_eq_false_iff_ne]; omega
  have hten := tenDig_at
  unfold tenDig at hten
  have HTEN := Lib.hid hten
  clear hten
  go_enter Tryz.func140, Tryz.ntmps140
  go_wp2
  go_loop [3, 4] (fun o m => ∃ (u : Nat) (acc : List UInt8), acc.length + u ≤ n ∧ o = .string ⟨acc.toArray⟩ ∧ m = .int .i64 u ∧ Hid (digAll u acc = digAll n [])) (fun _ m => (intOf m).toNat)
  case atStart => exact ⟨n, [], by simp, rfl, rfl, Lib.hid rfl⟩
  case round =>
    obtain ⟨u, acc, hlen, rfl, rfl, hd⟩ := hrel
    by_cases hu : 0 < u
    · have hue : ((u : Int) == 0) = false := by rw [beq_eq_false_iff_ne]; omega
      have hut : ((u : Int) != 0) = true := by rw [bne, hue]; rfl
      have hstep := digAll_step u acc hu
      rw [hd.out] at hstep
      have HSTEP := Lib.hid hstep.symm
      clear hstep
      have hx := HTEN.out (u % 10) (by omega)
      have hr1 : ¬ ((u : Int) % 10 < 0) := by omega
      generalize UInt8.ofNat (48 + u % 10) = c at hx HSTEP
      go_wp2
      go_round
      case rel => exact ⟨u / 10, c :: acc, by simp; omega, by congr 1, by go_num, HSTEP⟩
      case measure => simp [intOf]; omega
    · obtain rfl : u = 0 := by omega
      have hn0 : ¬ (n : Int) < 0 := by omega
      have HA : Hid (acc = digAll n []) := Lib.hid (by rw [← hd.out]; rfl)
      go_wp2
      go_ret
      exact ⟨by rw [HV.out, ← HA.out]; rfl, rfl⟩

set_option maxRecDepth 100000 in
set_option maxHeartbeats 1000000 in
theorem decText_neg (n : Nat) (w : World) (hn : n ≤ 9223372036854775808) (h0 : 0 < n) :
    Calls Tryz.prog 140 #[.int .i64 (-(n : Int))] w fun e w' => e = .returned (.string ⟨(Lib.itoa (-(n : Int))).toArray⟩) ∧ w' = w := by
  have HV : Hid (Lib.itoa (-(n : Int)) = 45 :: digAll n []) := Lib.hid (by unfold Lib.itoa digAll; rw [if_pos (by omega), if_neg (by omega)]; simp)
  have hne : (-(n : Int) == 0) = false := by rw [beq_eq_false_iff_ne]; omega
  have hten := tenDig_at
  unfold tenDig at hten
  have HTEN := Lib.hid hten
  clear hten
  go_enter Tryz.func140, Tryz.ntmps140
  go_wp2
  go_loop [3, 4] (fun o m => ∃ (u : Nat) (acc : List UInt8), acc.length ≤ 5000000000000000000 ∧ (0 < u → 2 * acc.length + u ≤ n + 1) ∧ u ≤ n ∧ o = .string ⟨acc.toArray⟩ ∧ m = .int .i64 (-(u : Int)) ∧ Hid (digAll u acc = digAll n [])) (fun _ m => (-(intOf m)).toNat)
  case atStart => exact ⟨n, [], by simp, by simp, Nat.le_refl _, rfl, rfl, Lib.hid rfl⟩
  case round =>
    obtain ⟨u, acc, hl1, hl2, hun, rfl, rfl, hd⟩ := hrel
    by_cases hu : 0 < u
    · have hl3 := hl2 hu
      clear hl2
      have hue : (-(u : Int) == 0) = false := by rw [beq_eq_false_iff_ne]; omega
      have hut : (-(u : Int) != 0) = true := by rw [bne, hue]; rfl
      have hstep := digAll_step u acc hu
      rw [hd.out] at hstep
      have HSTEP := Lib.hid hstep.symm
      clear hstep
      have hx := HTEN.out (u % 10) (by omega)
      generalize UInt8.ofNat (48 + u % 10) = c at hx HSTEP
      have hmod : (-(u : Int)).tmod 10 = -((u : Int) % 10) := by rw [Int.neg_tmod, Int.tmod_eq_emod_of_nonneg (by omega)]
      have hdiv : (-(u : Int)).tdiv 10 = -((u : Int) / 10) := by rw [Int.neg_tdiv, Int.tdiv_eq_ediv_of_nonneg (by omega)]
      by_cases hz : 0 < u % 10
      · have hr1 : -((u : Int) % 10) < 0 := by omega
        go_wp2
        go_round
        case rel => exact ⟨u / 10, c :: acc, by simp; omega, fun _ => by simp; omega, by omega, by congr 1, by go_num, HSTEP⟩
        case measure => simp [intOf]; omega
      · have hz0 : (u : Int) % 10 = 0 := by omega
        have hz1 : u % 10 = 0 := by omega
        rw [hz0] at hmod
        rw [hz1] at hx
        simp only [Nat.zero_add] at hx
        clear hz0 hz1 hz
        go_wp2
        go_round
        case rel => exact ⟨u / 10, c :: acc, by simp; omega, fun _ => by simp; omega, by omega, by congr 1, by go_num, HSTEP⟩
        case measure => simp [intOf]; omega
    · obtain rfl : u = 0 := by omega
      have hn0 : -(n : Int) < 0 := by omega
      have HA : Hid (acc = digAll n []) := Lib.hid (by rw [← hd.out]; rfl)
      clear hl2
      go_wp2
      go_ret
      exact ⟨by rw [HV.out, ← HA.out]; rfl, rfl⟩

theorem decText_any (n : Int) (w : World) (h1 : -9223372036854775808 ≤ n) (h2 : n ≤ 9223372036854775807) :
    Calls Tryz.prog 140 #[.int .i64 n] w fun e w' => e = .returned (.string ⟨(Lib.itoa n).toArray⟩) ∧ w' = w := by
  rcases Int.lt_trichotomy n 0 with h | rfl | h
  · obtain ⟨k, rfl⟩ : ∃ k : Nat, n = -(k : Int) := ⟨n.natAbs, by omega⟩
    exact decText_neg k w (by omega) (by omega)
  · go_enter Tryz.func140, Tryz.ntmps140
    go_wp2
    go_ret
    exact ⟨by rw [show Lib.itoa 0 = [48] by simp [Lib.itoa, Lib.decDigits]]; rfl, rfl⟩
  · obtain ⟨k, rfl⟩ : ∃ k : Nat, n = (k : Int) := ⟨n.toNat, by omega⟩
    exact decText_pos k w (by omega) (by omega)
end Go.Proofs.YtgebkpnieailbaaGreatDoor

/-
  Strings: the walks of spec's PutString, NString.
-/
namespace Go.Proofs.YtgebkpnieailbaaGreatDoor
set_option linter.unusedVariables false
open Go.RowKit

set_option maxRecDepth 100000 in
set_option maxHeartbeats 1000000 in
theorem specPutString_any (s : ByteArray) (w : World) (hs : s.size ≤ 67108864) :
    Calls Tryz.prog 89 #[.string s] w fun e w' => e = .returned (.string ⟨(putStr s.data.toList).toArray⟩) ∧ Below w.heap.size w w' := by
  have hlen : s.data.toList.length = s.size := by simp
  have HA := Lib.hid (fun w => has_any s 0 w (by omega))
  have PL := Lib.hid (fun w => plain_any s w (by omega))
  have QU := Lib.hid (fun w => specQuote_any s w hs)
  have DE := Lib.hid (fun w => decText_any (s.size : Int) w (by omega) (by omega))
  cases h0 : hasL 0 s.data.toList with
  | true =>
    have hp : putStr s.data.toList = [] := by unfold putStr; rw [if_pos (.inl h0)]
    rw [hp]
    rw [h0] at HA
    clear hp h0
    go_enter Tryz.func89, Tryz.ntmps89
    go_wp2_with fail
    refine (HA.out _).mono ?_
    rintro e w1 ⟨rfl, rfl⟩
    go_wp2_with fail
    go_ret
    exact ⟨rfl, Below.refl _ _⟩
  | false =>
    rw [h0] at HA
    by_cases h4 : 400 < s.size
    · have hp : putStr s.data.toList = [] := by unfold putStr; rw [if_pos (.inr (by omega))]
      rw [hp]
      have g4 : decide ((400 : Int) < (s.size : Int)) = true := by simp; omega
      clear hp h0 h4
      go_enter Tryz.func89, Tryz.ntmps89
      go_wp2_with fail
      refine (HA.out _).mono ?_
      rintro e w1 ⟨rfl, rfl⟩
      go_wp2_with fail
      go_ret
      exact ⟨rfl, Below.refl _ _⟩
    · have g4 : decide ((400 : Int) < (s.size : Int)) = false := by simp; omega
      have hb0 : ¬ (hasL 0 s.data.toList = true ∨ 400 < s.data.toList.length) := by rw [h0]; simp; omega
      have LIT : Hid (¬ (s.data.toList.length ≤ 60 ∧ plainAll s.data.toList = true) → (⟨(putStr s.data.toList).toArray⟩ : ByteArray) = ⟨#[123]⟩ ++ ⟨(Lib.itoa (s.size : Int)).toArray⟩ ++ ⟨#[125, 13, 10]⟩ ++ s) := Lib.hid (fun hn => by
        unfold putStr
        rw [if_neg hb0, if_neg hn, hlen]
        apply ByteArray.ext
        apply Array.ext'
        simp [ByteArray.data_append])
      have hil := itoa_len s.size hs
      have hds : (⟨(Lib.itoa (s.size : Int)).toArray⟩ : ByteArray).size ≤ 21 := by show (Lib.itoa (s.size : Int)).toArray.size ≤ 21; simpa using hil
      have z1 : (⟨#[123]⟩ : ByteArray).size = 1 := rfl
      have z3 : (⟨#[125, 13, 10]⟩ : ByteArray).size = 3 := rfl
      by_cases h6 : s.size ≤ 60
      · have g6 : decide ((s.size : Int) ≤ 60) = true := by simp; omega
        cases hpl : plainAll s.data.toList with
        | true =>
          have hp : putStr s.data.toList = quoteL s.data.toList := by unfold putStr; rw [if_neg hb0, if_pos ⟨by omega, hpl⟩]
          rw [hp]
          rw [hpl] at PL
          clear hp h0 h4 hb0 hpl LIT
          go_enter Tryz.func89, Tryz.ntmps89
          go_wp2_with fail
          refine (HA.out _).mono ?_
          rintro e w1 ⟨rfl, rfl⟩
          go_wp2_with fail
          refine (PL.out _).mono ?_
          rintro e w2 ⟨rfl, rfl⟩
          go_wp2_with fail
          refine (QU.out _).mono ?_
          rintro e w3 ⟨rfl, hB3⟩
          go_wp2_with fail
          go_ret
          exact ⟨rfl, hB3⟩
        | false =>
          rw [LIT.out (by rw [hpl]; simp)]
          rw [hpl] at PL
          generalize (⟨(Lib.itoa (s.size : Int)).toArray⟩ : ByteArray) = D at DE hds ⊢
          clear h0 h4 hb0 hpl LIT hil
          go_enter Tryz.func89, Tryz.ntmps89
          go_wp2_with fail
          refine (HA.out _).mono ?_
          rintro e w1 ⟨rfl, rfl⟩
          go_wp2_with fail
          refine (PL.out _).mono ?_
          rintro e w2 ⟨rfl, rfl⟩
          go_wp2_with fail
          refine (DE.out _).mono ?_
          rintro e w3 ⟨rfl, rfl⟩
          go_wp2_with fail
          go_ret
          exact ⟨rfl, Below.refl _ _⟩
      · have g6 : decide ((s.size : Int) ≤ 60) = false := by simp; omega
        rw [LIT.out (by rw [hlen]; omega)]
        generalize (⟨(Lib.itoa (s.size : Int)).toArray⟩ : ByteArray) = D at DE hds ⊢
        clear h0 h4 hb0 LIT hil
        go_enter Tryz.func89, Tryz.ntmps89
        go_wp2_with fail
        refine (HA.out _).mono ?_
        rintro e w1 ⟨rfl, rfl⟩
        go_wp2_with fail
        refine (DE.out _).mono ?_
        rintro e w3 ⟨rfl, rfl⟩
        go_wp2_with fail
        go_ret
        exact ⟨rfl, Below.refl _ _⟩
end Go.Proofs.YtgebkpnieailbaaGreatDoor

/-
  Strings that may not be there: the walk of spec's NString.
-/
namespace Go.Proofs.YtgebkpnieailbaaGreatDoor
set_option linter.unusedVariables false
open Go.RowKit

set_option maxRecDepth 100000 in
set_option maxHeartbeats 400000 in
theorem specNString_any (s : ByteArray) (b : Bool) (w : World) (hs : s.size ≤ 67108864) :
    Calls Tryz.prog 158 #[.string s, .bool b] w fun e w' => e = .returned (.string ⟨(nstr b s.data.toList).toArray⟩) ∧ Below w.heap.size w w' := by
  have PS := Lib.hid (fun w => specPutString_any s w hs)
  cases b with
  | false =>
    go_enter Tryz.func158, Tryz.ntmps158
    go_wp2_with fail
    go_ret
    exact ⟨rfl, Below.refl _ _⟩
  | true =>
    go_enter Tryz.func158, Tryz.ntmps158
    go_wp2_with fail
    refine (PS.out _).mono ?_
    rintro e w2 ⟨rfl, hB2⟩
    go_wp2_with fail
    go_ret
    exact ⟨rfl, hB2⟩
end Go.Proofs.YtgebkpnieailbaaGreatDoor

/-
  Addresses: the walk of spec's AddrText.
-/
namespace Go.Proofs.YtgebkpnieailbaaGreatDoor
set_option linter.unusedVariables false
open Go.RowKit

theorem flat_take (l : List Ad) (k : Nat) (h : k < l.length) : (l.take (k + 1)).flatMap addrT = (l.take k).flatMap addrT ++ addrT l[k] := by
  rw [List.take_add_one, List.flatMap_append, List.getElem?_eq_getElem h]
  simp
theorem flat_take_le : ∀ (l : List Ad) (k : Nat), ((l.take k).flatMap addrT).length ≤ (l.flatMap addrT).length
  | [], k => by simp
  | a :: r, 0 => by simp
  | a :: r, k + 1 => by
    have := flat_take_le r k
    rw [List.take_succ_cons, List.flatMap_cons, List.flatMap_cons, List.length_append, List.length_append]
    omega
theorem add_lit (L : ByteArray) (l : List UInt8) : (L ++ ⟨l.toArray⟩ : ByteArray).data.toList = L.data.toList ++ l := by simp [ByteArray.data_append]
/-- The words of an address, put together. -/
theorem addr_join (O : ByteArray) (a : Ad) : O ++ ⟨#[40]⟩ ++ mkB (nstr (!a.name.isEmpty) a.name) ++ ⟨#[32, 78, 73, 76, 32]⟩ ++ mkB (putStr a.box) ++ ⟨#[32]⟩ ++ mkB (putStr a.host) ++ ⟨#[41]⟩ = mkB (O.data.toList ++ addrT a) := by
  apply ByteArray.ext
  apply Array.ext'
  simp [ByteArray.data_append, addrT, mkB]

set_option maxRecDepth 100000 in
set_option maxHeartbeats 2000000 in
theorem specAddrText_any (v : Value) (l : List Ad) (w : World) (hv : AdsAt w v l) (hm : adSizes l ≤ 1048576) (hl : l.length ≤ 1048576) :
    Calls Tryz.prog 123 #[v] w fun e w' => e = .returned (.string (mkB (addrTs l))) ∧ Below w.heap.size w w' := by
  obtain ⟨p, cap, rfl⟩ := hv.slice
  have HV := Lib.hid hv
  have hfl := flat_len l (by omega)
  have HFL : Hid ((l.flatMap addrT).length ≤ 110000000) := Lib.hid (by omega)
  have HM := Lib.hid hm
  clear hv hm hfl
  by_cases h0 : l.length = 0
  · obtain rfl : l = [] := List.eq_nil_of_length_eq_zero h0
    clear h0
    go_enter Tryz.func123, Tryz.ntmps123
    go_wp2
    go_ret
    exact ⟨rfl, Below.refl _ _⟩
  · have g0 : ((l.length : Int) == 0) = false := by rw [beq_eq_false_iff_ne]; omega
    have hA : addrTs l = 40 :: l.flatMap addrT ++ [41] := by unfold addrTs; rw [if_neg (by intro h; rw [h] at h0; simp at h0)]
    rw [hA]
    have hpos : 0 < l.length := Nat.pos_of_ne_zero h0
    obtain ⟨g, off, c2, hgv, hg, hc⟩ : ∃ g off c2, Value.slice p l.length cap = .slice (some ⟨g, off, none⟩) l.length c2 ∧ g < w.heap.size ∧ ∀ k, (h : k < l.length) → w.cell? ⟨g, off + k * 3, none⟩ = some (.string (mkB l[k].name)) ∧ w.cell? ⟨g, off + k * 3 + 1, none⟩ = some (.string (mkB l[k].box)) ∧ w.cell? ⟨g, off + k * 3 + 2, none⟩ = some (.string (mkB l[k].host)) := by
      rcases HV.out with ⟨h, _⟩ | h
      · rw [h] at hpos; simp at hpos
      · exact h
    injection hgv with hgv1 hgv2 hgv3
    subst hgv1 hgv3
    have HC := Lib.hid hc
    clear hc h0 hA HV
    go_enter Tryz.func123, Tryz.ntmps123
    go_wp2
    go_loopw [3, 4] (fun o i wr => ∃ (k : Nat) (O : ByteArray), k ≤ l.length ∧ i = .int .i64 (k : Int) ∧ o = .string O ∧ Hid (O.data.toList = 40 :: (l.take k).flatMap addrT) ∧ Below w.heap.size w wr) (fun _ i _ => l.length - (intOf i).toNat)
    case atStart => exact ⟨0, ⟨#[40]⟩, Nat.zero_le _, rfl, rfl, Lib.hid (by simp), Below.refl _ _⟩
    case round =>
      obtain ⟨k, O, hk, rfl, rfl, HO, hB⟩ := hrel
      have hsz := hB.size
      by_cases hlt : k < l.length
      · have g1 : decide ((k : Int) < (l.length : Int)) = true := by simp; omega
        have i1 : (0 : Int) ≤ (k : Int) := by omega
        have i2 : (k : Int) < (l.length : Int) := by omega
        obtain ⟨x1, x2, x3⟩ := HC.out k hlt
        have htk := flat_take l k hlt
        have hle := flat_take_le l (k + 1)
        have hsm := adSizes_mem (List.getElem_mem hlt)
        have hM := HM.out
        have hF := HFL.out
        have hos : O.size = ((l.take k).flatMap addrT).length + 1 := by
          have := congrArg List.length HO.out
          simpa using this
        generalize l[k] = a at x1 x2 x3 htk hsm
        rw [htk, List.length_append] at hle
        have hO3 : (mkB (O.data.toList ++ addrT a)).data.toList = 40 :: (l.take (k + 1)).flatMap addrT := by rw [mkB_list, HO.out, htk]; rfl
        have HN := Lib.hid hO3
        have hj := addr_join O a
        have n1 := nstr_len (!a.name.isEmpty) a.name (by unfold adSize at hsm; omega)
        have n2 := putStr_len a.box (by unfold adSize at hsm; omega)
        have n3 := putStr_len a.host (by unfold adSize at hsm; omega)
        have hOb : O.size ≤ 110000001 := by omega
        have NS := fun b w => specNString_any (mkB a.name) b w (by rw [mkB_size]; unfold adSize at hsm; omega)
        have PB := Lib.hid (fun w => specPutString_any (mkB a.box) w (by rw [mkB_size]; unfold adSize at hsm; omega))
        have PH := Lib.hid (fun w => specPutString_any (mkB a.host) w (by rw [mkB_size]; unfold adSize at hsm; omega))
        rw [mkB_list] at NS PB PH
        have NE := NS (!a.name.isEmpty)
        have NEH := Lib.hid NE
        rw [show ∀ l : List UInt8, (⟨l.toArray⟩ : ByteArray) = mkB l from fun _ => rfl] at PB PH NEH
        have hne : (!(mkB a.name).toList.isEmpty) = !a.name.isEmpty := by rw [Lib.toList_data, mkB_list]
        have m1 : (mkB (nstr (!a.name.isEmpty) a.name)).size ≤ 1048576 * 2 + 30 := by rw [mkB_size]; unfold adSize at hsm; omega
        have m2 : (mkB (putStr a.box)).size ≤ 1048576 * 2 + 30 := by rw [mkB_size]; unfold adSize at hsm; omega
        have m3 : (mkB (putStr a.host)).size ≤ 1048576 * 2 + 30 := by rw [mkB_size]; unfold adSize at hsm; omega
        generalize mkB (nstr (!a.name.isEmpty) a.name) = S1 at NEH hj m1
        generalize mkB (putStr a.box) = S2 at PB hj m2
        generalize mkB (putStr a.host) = S3 at PH hj m3
        have z1 : wr.cell? ⟨g, off + k * 3, none⟩ = some (.string (mkB a.name)) := (hB.cell (p := ⟨g, off + k * 3, none⟩) hg).trans x1
        have z2 : wr.cell? ⟨g, off + k * 3 + 1, none⟩ = some (.string (mkB a.box)) := (hB.cell (p := ⟨g, off + k * 3 + 1, none⟩) hg).trans x2
        have z3 : wr.cell? ⟨g, off + k * 3 + 2, none⟩ = some (.string (mkB a.host)) := (hB.cell (p := ⟨g, off + k * 3 + 2, none⟩) hg).trans x3
        generalize mkB (O.data.toList ++ addrT a) = O3 at HN hj
        generalize mkB a.name = nm at NEH hne z1
        generalize mkB a.box = bx at PB z2
        generalize mkB a.host = ho at PH z3
        have HNE := Lib.hid hne
        rw [← hne] at NEH
        have HJ := Lib.hid hj
        have s1 : ¬ 9223372036854775807 < O.size + 1 := by omega
        have s2 : ¬ 9223372036854775807 < O.size + 1 + S1.size := by omega
        have s3 : ¬ 9223372036854775807 < O.size + 1 + S1.size + 5 := by omega
        have s4 : ¬ 9223372036854775807 < O.size + 1 + S1.size + 5 + S2.size := by omega
        have s5 : ¬ 9223372036854775807 < O.size + 1 + S1.size + 5 + S2.size + 1 := by omega
        have s6 : ¬ 9223372036854775807 < O.size + 1 + S1.size + 5 + S2.size + 1 + S3.size := by omega
        have s7 : ¬ 9223372036854775807 < O.size + 1 + S1.size + 5 + S2.size + 1 + S3.size + 1 := by omega
        clear x1 x2 x3 htk hle hsm hM hF hos hO3 hj n1 n2 n3 NS NE hne HO
        go_wp2_with fail
        have c0 := (three_cells (new_three wr (.string nm) (.string bx) (.string ho) 195)).1
        have c1 := (three_cells (new_three wr (.string nm) (.string bx) (.string ho) 195)).2.1
        have c2 := (three_cells (new_three wr (.string nm) (.string bx) (.string ho) 195)).2.2
        have lt0 : wr.heap.size < (wr.alloc (.cells #[.string nm, .string bx, .string ho] 195)).heap.size := by simp
        have HB0 := Lib.hid (hB.alloc hsz (.cells #[.string nm, .string bx, .string ho] 195))
        obtain ⟨W0, hW0⟩ : ∃ W, wr.alloc (.cells #[.string nm, .string bx, .string ho] 195) = W := ⟨_, rfl⟩
        rw [hW0] at c0 c1 c2 lt0 HB0 ⊢
        clear hW0 z1 z2 z3
        have LT0 := Lib.hid lt0
        clear lt0
        go_region_held3 (fun w' => w'.cell? ⟨wr.heap.size, 0, none⟩ = some (.string nm) ∧ w'.cell? ⟨wr.heap.size, 1, none⟩ = some (.string bx) ∧ w'.cell? ⟨wr.heap.size, 2, none⟩ = some (.string ho)) (first | go_keep | exact ⟨a0, a1, a2⟩ | exact ⟨b0, b1, b2⟩ | exact ⟨e0, e1, e2⟩) (first | (go_at_call 158; refine (NEH.out _).mono ?_; rintro e w1 ⟨rfl, hB1⟩; have a0 : w1.cell? ⟨wr.heap.size, 0, none⟩ = some (.string nm) := (hB1.cell (p := ⟨wr.heap.size, 0, none⟩) LT0.out).trans c0; have a1 : w1.cell? ⟨wr.heap.size, 1, none⟩ = some (.string bx) := (hB1.cell (p := ⟨wr.heap.size, 1, none⟩) LT0.out).trans c1; have a2 : w1.cell? ⟨wr.heap.size, 2, none⟩ = some (.string ho) := (hB1.cell (p := ⟨wr.heap.size, 2, none⟩) LT0.out).trans c2; have LT1 := Lib.hid (Nat.lt_of_lt_of_le LT0.out hB1.size); have HB1 := Lib.hid (HB0.out.drew.trans (hB1.mono HB0.out.size)); clear hB1) | (go_at_call 89; refine (PB.out _).mono ?_; rintro e w2 ⟨rfl, hB2⟩; have b0 : w2.cell? ⟨wr.heap.size, 0, none⟩ = some (.string nm) := (hB2.cell (p := ⟨wr.heap.size, 0, none⟩) LT1.out).trans a0; have b1 : w2.cell? ⟨wr.heap.size, 1, none⟩ = some (.string bx) := (hB2.cell (p := ⟨wr.heap.size, 1, none⟩) LT1.out).trans a1; have b2 : w2.cell? ⟨wr.heap.size, 2, none⟩ = some (.string ho) := (hB2.cell (p := ⟨wr.heap.size, 2, none⟩) LT1.out).trans a2; have LT2 := Lib.hid (Nat.lt_of_lt_of_le LT1.out hB2.size); have HB2 := Lib.hid (HB1.out.trans (hB2.mono HB1.out.size)); clear hB2 PB) | (go_at_call 89; refine (PH.out _).mono ?_; rintro e w3 ⟨rfl, hB3⟩; have e0 : w3.cell? ⟨wr.heap.size, 0, none⟩ = some (.string nm) := (hB3.cell (p := ⟨wr.heap.size, 0, none⟩) LT2.out).trans b0; have e1 : w3.cell? ⟨wr.heap.size, 1, none⟩ = some (.string bx) := (hB3.cell (p := ⟨wr.heap.size, 1, none⟩) LT2.out).trans b1; have e2 : w3.cell? ⟨wr.heap.size, 2, none⟩ = some (.string ho) := (hB3.cell (p := ⟨wr.heap.size, 2, none⟩) LT2.out).trans b2; have HB3 := Lib.hid (HB2.out.trans (hB3.mono HB2.out.size)); clear hB3))
        go_wp2_with fail
        go_roundw
        case rel => exact ⟨k + 1, O3, by omega, by go_num, by rw [HJ.out], HN, HB3.out⟩
        case measure => simp [intOf]; omega
      · obtain rfl : k = l.length := by omega
        have g1 : decide ((l.length : Int) < (l.length : Int)) = false := by simp
        have hF := HFL.out
        have hos : O.size = (l.flatMap addrT).length + 1 := by
          have := congrArg List.length HO.out
          simpa using this
        have s1 : ¬ 9223372036854775807 < O.size + 1 := by omega
        have HF : Hid (O ++ (⟨#[41]⟩ : ByteArray) = mkB (40 :: (l.flatMap addrT ++ [41]))) := Lib.hid (by
          apply ByteArray.ext
          apply Array.ext'
          rw [ByteArray.data_append, Array.toList_append, HO.out, List.take_length]
          rfl)
        clear hF hos HO
        go_wp2_with fail
        go_ret
        exact ⟨by rw [← HF.out]; rfl, hB⟩
end Go.Proofs.YtgebkpnieailbaaGreatDoor

/-
  Words: a byte that is found stands there.
-/
namespace Go.Proofs.YtgebkpnieailbaaGreatDoor
set_option linter.unusedVariables false
open Go.RowKit

theorem index_has (l : List UInt8) (c : UInt8) : decide (Lib.indexByte l c < 0) = !hasL c l := by
  have hge := Lib.indexByte_ge l c
  cases h : hasL c l with
  | true =>
    have : ¬ Lib.indexByte l c < 0 := by
      intro hn
      have h1 : Lib.indexByte l c = -1 := by omega
      have h2 := Lib.indexByte_none h1
      unfold hasL at h
      rw [List.any_eq_true] at h
      obtain ⟨x, hx, hxc⟩ := h
      obtain ⟨k, hk⟩ := List.mem_iff_getElem?.1 hx
      exact h2 k (by rw [hk, beq_iff_eq.1 hxc])
    simp [this]
  | false =>
    have : Lib.indexByte l c < 0 := by
      rcases Int.lt_or_le (Lib.indexByte l c) 0 with h1 | h1
      · exact h1
      · obtain ⟨o, ho⟩ := Int.eq_ofNat_of_zero_le h1
        have h2 := (Lib.indexByte_some ho).1
        have : hasL c l = true := by
          unfold hasL
          rw [List.any_eq_true]
          exact ⟨c, List.mem_of_getElem? h2, beq_self_eq_true _⟩
        rw [h] at this
        cases this
    simp [this]
end Go.Proofs.YtgebkpnieailbaaGreatDoor

/-
  A function of the program that tells something of a byte.
-/
namespace Go.Proofs.YtgebkpnieailbaaGreatDoor
set_option linter.unusedVariables false
open Go.RowKit

/-- A function of the program that tells something of a byte. -/
structure Fits (K : FuncId) (p : UInt8 → Bool) : Prop where
  goes : ∀ (b : UInt8) (w : World), Calls Tryz.prog K #[.int .u8 b.toNat] w fun e w' => e = .returned (.bool (p b)) ∧ w = w'
  enters : Enters Tryz.prog K
end Go.Proofs.YtgebkpnieailbaaGreatDoor
