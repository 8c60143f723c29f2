import Derived.Test.YtjleadlecdcdeaaDoorRows
import Derived.WalkKit
import Derived.WalkSpells
import Derived.Lib.Hide
import Derived.Lib.Strings
import Derived.Lib.SlTrimSet
import Derived.Lib.IndexMore
import Derived.Deep.QuietTactic
import Derived.Maps.AppendAt
import Derived.Laws.IdiomStrings
import Derived.Lib.AppendStr
import Derived.Lib.Index
import Derived.Deep.WholeRow
import Derived.OwnWalk
import Derived.Deep.RegionHeld3
import Derived.RangeFuncBox
import Derived.Lib.ItoaNum
import Derived.BigQuiet
import Derived.Shelf.Strings.Shaped
import Derived.Test.YtjleadlecdcdeaaDoorShelf
/-
  The walk of spec's Trim.
-/
namespace Go.Proofs.YtjleadlecdcdeaaDoor
set_option linter.unusedVariables false
open Go.RowKit

def blankB (b : UInt8) : Bool := ([32, 9] : List UInt8).contains b
theorem blankB_iff (b : UInt8) : blankB b = true ↔ b.toNat = 32 ∨ b.toNat = 9 := by
  unfold blankB
  simp only [List.contains, List.elem]
  constructor
  · intro h
    split at h
    · rename_i h1; left; rw [beq_iff_eq] at h1; subst h1; rfl
    · split at h
      · rename_i h1; right; rw [beq_iff_eq] at h1; subst h1; rfl
      · cases h
  · rintro (h | h)
    · have : b = 32 := UInt8.toNat_inj.1 h
      subst this; rfl
    · have : b = 9 := UInt8.toNat_inj.1 h
      subst this; rfl

theorem trim_eq (l : List UInt8) (k m : Nat) (hkm : k ≤ m) (hm : m ≤ l.length) (h1 : ∀ j b, j < k → l[j]? = some b → blankB b = true) (h2 : ∀ b, k < l.length → l[k]? = some b → blankB b = false)
    (h3 : ∀ j b, m ≤ j → l[j]? = some b → blankB b = true) (h4 : ∀ b, k < m → l[m - 1]? = some b → blankB b = false) : Lib.trimS l [32, 9] = (l.drop k).take (m - k) := by
  unfold Lib.trimS
  rcases Nat.lt_or_ge k l.length with hk | hk
  · have hlk : l[k]? = some l[k] := List.getElem?_eq_getElem hk
    have hkm' : k < m := by
      rcases Nat.lt_or_ge k m with h | h
      · exact h
      · have a := h2 _ hk hlk
        have b := h3 k _ h hlk
        rw [a] at b
        cases b
    rw [Lib.trimRightS_take l [32, 9] m hm (fun j b hj hb => h3 j b hj hb) (fun b _ hb => h4 b hkm' hb)]
    rw [Lib.trimLeftS_drop (l.take m) [32, 9] k (by simp; omega) (fun j b hj hb => h1 j b hj (by rw [List.getElem?_take, if_pos (by omega)] at hb; exact hb)) (fun b hb => h2 b hk (by rw [List.getElem?_take, if_pos hkm'] at hb; exact hb))]
    rw [List.drop_take]
  · rw [Lib.trimRightS_take l [32, 9] 0 (Nat.zero_le _) (fun j b _ hb => by
      have hj : j < l.length := (List.getElem?_eq_some_iff.1 hb).1
      exact h1 j b (by omega) hb) (fun b h _ => by omega)]
    rw [List.drop_eq_nil_of_le hk, List.take_zero, List.take_nil]
    rfl

set_option maxHeartbeats 400000 in
theorem blank_yes (c : Int) (w : World) (h : c = 32 ∨ c = 9) :
    Calls Tryd.prog 45 #[.int .u8 c] w fun e w' => e = .returned (.bool true) ∧ w' = w := by
  rcases h with rfl | rfl
  · go_enter Tryd.func45, Tryd.ntmps45
    go_wp2
    go_ret
    exact ⟨rfl, rfl⟩
  · go_enter Tryd.func45, Tryd.ntmps45
    go_wp2
    go_ret
    exact ⟨rfl, rfl⟩
set_option maxHeartbeats 400000 in
theorem blank_no (c : Int) (w : World) (h1 : c ≠ 32) (h2 : c ≠ 9) :
    Calls Tryd.prog 45 #[.int .u8 c] w fun e w' => e = .returned (.bool false) ∧ w' = w := by
  have a : (c == 32) = false := by rw [beq_eq_false_iff_ne]; exact h1
  have b : (c == 9) = false := by rw [beq_eq_false_iff_ne]; exact h2
  clear h1 h2
  go_enter Tryd.func45, Tryd.ntmps45
  go_wp2
  go_ret
  exact ⟨rfl, rfl⟩

def Blanks (s : ByteArray) (a b : Nat) : Prop := ∀ j c, a ≤ j → j < b → s.data.toList[j]? = some c → blankB c = true
theorem blanks_more {s : ByteArray} {a b : Nat} (h : Blanks s a b) (c : UInt8) (hc : s.data.toList[b]? = some c) (hb : blankB c = true) : Blanks s a (b + 1) := fun j d h1 h2 h3 => by
  rcases Nat.lt_or_ge j b with h4 | h4
  · exact h j d h1 h4 h3
  · obtain rfl : j = b := by omega
    rw [hc] at h3
    injection h3 with h3
    rw [← h3]; exact hb
theorem blanks_less {s : ByteArray} {a b : Nat} (h : Blanks s (a + 1) b) (c : UInt8) (hc : s.data.toList[a]? = some c) (hb : blankB c = true) : Blanks s a b := fun j d h1 h2 h3 => by
  rcases Nat.lt_or_ge a j with h4 | h4
  · exact h j d h4 h2 h3
  · obtain rfl : j = a := by omega
    rw [hc] at h3
    injection h3 with h3
    rw [← h3]; exact hb

set_option maxRecDepth 100000 in
set_option maxHeartbeats 1000000 in
theorem specTrim_any (s : ByteArray) (w : World) (hs : s.size ≤ 1048576) :
    Calls Tryd.prog 28 #[.string s] w fun e w' => e = .returned (.string ⟨(Lib.trimS s.data.toList [32, 9]).toArray⟩) ∧ w' = w := by
  have hat : ∀ k (h : k < s.size), s.data.toList[k]? = some (s[k]'h) := fun k h => by
    rw [List.getElem?_eq_getElem (by simpa using h)]; rfl
  have HAT := Lib.hid hat
  clear hat
  go_enter Tryd.func28, Tryd.ntmps28
  go_wp2
  go_loop [3] (fun a => ∃ k : Nat, k ≤ s.size ∧ a = .int .i64 k ∧ Hid (Blanks s 0 k)) (fun a => s.size - (intOf a).toNat)
  case atStart => exact ⟨0, Nat.zero_le _, rfl, Lib.hid (fun j c h1 h2 => by omega)⟩
  case round =>
    obtain ⟨k, hk, rfl, hbl⟩ := hrel
    have hdone : (k < s.size → ∀ c, s.data.toList[k]? = some c → blankB c = false) ∨ (∃ h : k < s.size, blankB (s[k]'h) = true) := by
      by_cases hlt : k < s.size
      · cases hb : blankB s[k]
        · left
          intro _ c hc
          rw [HAT.out k hlt] at hc
          injection hc with hc
          rw [← hc]; exact hb
        · exact .inr ⟨hlt, hb⟩
      · exact .inl (fun h => absurd h hlt)
    rcases hdone with hno | ⟨hlt, hyes⟩
    · have HNO := Lib.hid hno
      clear hno
      have hcont : (∃ h : k < s.size, ((s[k]'h).toNat : Int) ≠ 32 ∧ ((s[k]'h).toNat : Int) ≠ 9) ∨ k = s.size := by
        by_cases hlt : k < s.size
        · left
          have h1 := HNO.out hlt _ (HAT.out k hlt)
          refine ⟨hlt, ?_, ?_⟩
          · intro e; rw [(blankB_iff _).2 (by omega)] at h1; cases h1
          · intro e; rw [(blankB_iff _).2 (by omega)] at h1; cases h1
        · right; omega
      rcases hcont with ⟨hlt, hn32, hn9⟩ | hend
      · have N32 := Lib.hid hn32
        have N9 := Lib.hid hn9
        clear hn32 hn9
        go_wp2_with (go_at_call 45; refine (blank_no _ _ N32.out N9.out).mono ?_; rintro e w' ⟨rfl, rfl⟩)
        go_loop [4] (fun b => ∃ m : Nat, k ≤ m ∧ m ≤ s.size ∧ b = .int .i64 m ∧ Hid (Blanks s m s.size)) (fun b => (intOf b).toNat)
        case atStart => exact ⟨s.size, by omega, Nat.le_refl _, rfl, Lib.hid (fun j c h1 h2 => by omega)⟩
        case round =>
          obtain ⟨m, hkm, hm, rfl, hbr⟩ := hrel
          by_cases hlt2 : k < m
          · have hm1 : m - 1 < s.size := by omega
            have hm0 : 1 ≤ m := by omega
            cases hb : blankB (s[m - 1]'hm1)
            · have hn32 : ((s[m - 1]'hm1).toNat : Int) ≠ 32 := by
                intro e; rw [(blankB_iff _).2 (by omega)] at hb; cases hb
              have hn9 : ((s[m - 1]'hm1).toNat : Int) ≠ 9 := by
                intro e; rw [(blankB_iff _).2 (by omega)] at hb; cases hb
              have M32 := Lib.hid hn32
              have M9 := Lib.hid hn9
              have HV : Hid (s.extract k m = ⟨(Lib.trimS s.data.toList [32, 9]).toArray⟩) := Lib.hid (by
                apply ByteArray.ext
                apply Array.ext'
                rw [Lib.extract_data, trim_eq s.data.toList k m (by omega) (by simpa using hm) (fun j c h1 h2 => hbl.out j c (Nat.zero_le _) h1 h2) (fun c h1 h2 => HNO.out hlt c h2) (fun j c h1 h2 => hbr.out j c h1 (by have := (List.getElem?_eq_some_iff.1 h2).1; simpa using this) h2) (fun c _ h2 => by rw [HAT.out (m - 1) hm1] at h2; injection h2 with h2; rw [← h2]; exact hb)])
              clear hn32 hn9 hb
              go_wp2_with (go_at_call 45; refine (blank_no _ _ M32.out M9.out).mono ?_; rintro e w' ⟨rfl, rfl⟩)
              go_ret
              exact ⟨by rw [← HV.out]; rfl, rfl⟩
            · have hbk := (blankB_iff _).1 hb
              have HB := Lib.hid hb
              have HBK : Hid (((s[m - 1]'hm1).toNat : Int) = 32 ∨ ((s[m - 1]'hm1).toNat : Int) = 9) := Lib.hid (by omega)
              clear hb hbk
              go_wp2_with (go_at_call 45; refine (blank_yes _ _ HBK.out).mono ?_; rintro e w' ⟨rfl, rfl⟩)
              go_round
              case rel => exact ⟨m - 1, by omega, by omega, by go_num, Lib.hid (blanks_less (by rw [show m - 1 + 1 = m by omega]; exact hbr.out) _ (HAT.out (m - 1) hm1) HB.out)⟩
              case measure => simp [intOf]; omega
          · exfalso
            obtain rfl : m = k := by omega
            have := HNO.out hlt _ (HAT.out m hlt)
            rw [hbr.out m _ (Nat.le_refl _) hlt (HAT.out m hlt)] at this
            cases this
      · have HV : Hid ((⟨(Lib.trimS s.data.toList [32, 9]).toArray⟩ : ByteArray) = ByteArray.empty) := Lib.hid (by
          apply ByteArray.ext
          apply Array.ext'
          rw [trim_eq s.data.toList s.size s.size (Nat.le_refl _) (by simp) (fun j c h1 h2 => hbl.out j c (Nat.zero_le _) (by omega) h2) (fun c h1 h2 => by simp at h1) (fun j c h1 h2 => by have := (List.getElem?_eq_some_iff.1 h2).1; simp at this; omega) (fun c h1 _ => by omega)]
          simp)
        subst hend
        go_wp2
        go_loop [4] (fun b => b = .int .i64 s.size) (fun b => 0)
        case atStart => rfl
        case round =>
          obtain rfl := hrel
          go_wp2
          go_ret
          exact ⟨by rw [HV.out]; rfl, rfl⟩
    · have hbk := (blankB_iff _).1 hyes
      have HB := Lib.hid hyes
      have HBK : Hid (((s[k]'hlt).toNat : Int) = 32 ∨ ((s[k]'hlt).toNat : Int) = 9) := Lib.hid (by omega)
      clear hyes hbk
      go_wp2_with (go_at_call 45; refine (blank_yes _ _ HBK.out).mono ?_; rintro e w' ⟨rfl, rfl⟩)
      go_round
      case rel => exact ⟨k + 1, by omega, by go_num, Lib.hid (blanks_more hbl.out _ (HAT.out k hlt) HB.out)⟩
      case measure => simp [intOf]; omega
end Go.Proofs.YtjleadlecdcdeaaDoor

/-
  Find: plain facts.
-/
namespace Go.Proofs.YtjleadlecdcdeaaDoor
set_option linter.unusedVariables false
open Go.RowKit

theorem occ_piece (s t : ByteArray) (k : Nat) (h : k + t.size ≤ s.size) :
    Lib.occAt s.data.toList t.data.toList k = ((s.extract k (k + t.size)).toList == t.toList) := by
  rw [Lib.occAt_iff_take _ _ _ (by simpa using h), Lib.toList_data, Lib.toList_data, Lib.extract_data]
  have e : k + t.size - k = t.data.toList.length := by simp
  rw [e]

theorem no_room (s t : ByteArray) (k : Nat) (h : s.size < k + t.size) (hk : k ≤ s.size) : Lib.occAt s.data.toList t.data.toList k = false := by
  rw [← Bool.not_eq_true]
  intro hc
  rcases Lib.occAt_room hc with h1 | h1
  · simp at h1; omega
  · have : t.size = 0 := by
      have : t.data.toList.length = 0 := by rw [h1]; rfl
      simpa using this
    omega

end Go.Proofs.YtjleadlecdcdeaaDoor

/-
  Header fields: plain.
-/
namespace Go.Proofs.YtjleadlecdcdeaaDoor
set_option linter.unusedVariables false
open Go.RowKit

/-- The lines of a text; what stands of the first one is in acc. -/
def linesA : List UInt8 → List UInt8 → List (List UInt8)
  | acc, [] => if acc = [] then [] else [acc]
  | acc, [b] => [acc ++ [b]]
  | acc, b :: c :: r => if b = 13 ∧ c = 10 then acc :: linesA [] r else linesA (acc ++ [b]) (c :: r)
termination_by _ l => l.length

def mkB (l : List UInt8) : ByteArray := ⟨l.toArray⟩
theorem mkB_list (l : List UInt8) : (mkB l).data.toList = l := rfl
theorem mkB_size (l : List UInt8) : (mkB l).size = l.length := by simp [mkB, ByteArray.size]
theorem mkB_extract (s : ByteArray) (a b : Nat) : s.extract a b = mkB ((s.data.toList.drop a).take (b - a)) := Lib.extract_eq s a b

/-- .. of a text from index i on, its line from index j on. -/
def linesAt (l : List UInt8) (j i : Nat) : List (List UInt8) := linesA ((l.drop j).take (i - j)) (l.drop i)
theorem linesAt_zero (l : List UInt8) : linesAt l 0 0 = linesA [] l := by simp [linesAt]
theorem linesAt_mark (l : List UInt8) (j i : Nat) (h0 : i + 1 < l.length) (hb : l[i]? = some 13) (hc : l[i + 1]? = some 10) :
    linesAt l j i = (l.drop j).take (i - j) :: linesAt l (i + 2) (i + 2) := by
  have e : l.drop i = 13 :: 10 :: l.drop (i + 2) := by
    rw [List.drop_eq_getElem_cons (by omega : i < l.length), List.drop_eq_getElem_cons (by omega : i + 1 < l.length)]
    rw [List.getElem?_eq_getElem (by omega)] at hb hc
    rw [Option.some.inj hb, Option.some.inj hc]
  unfold linesAt
  rw [e, linesA, if_pos ⟨rfl, rfl⟩]
  simp
theorem linesAt_next (l : List UInt8) (j i : Nat) (hji : j ≤ i) (h0 : i + 1 < l.length) (h : ¬ (l[i]? = some 13 ∧ l[i + 1]? = some 10)) : linesAt l j i = linesAt l j (i + 1) := by
  have e : l.drop i = l[i] :: l[i + 1] :: l.drop (i + 2) := by
    rw [List.drop_eq_getElem_cons (by omega : i < l.length), List.drop_eq_getElem_cons (by omega : i + 1 < l.length)]
  have e2 : l.drop (i + 1) = l[i + 1] :: l.drop (i + 2) := by rw [List.drop_eq_getElem_cons (by omega : i + 1 < l.length)]
  have hn : ¬ (l[i] = 13 ∧ l[i + 1] = 10) := by
    rw [List.getElem?_eq_getElem (by omega), List.getElem?_eq_getElem (by omega)] at h
    intro ⟨a, b⟩
    exact h ⟨by rw [a], by rw [b]⟩
  have e3 : (l.drop j).take (i + 1 - j) = (l.drop j).take (i - j) ++ [l[i]] := by
    rw [show i + 1 - j = i - j + 1 by omega, List.take_add_one, List.getElem?_drop, show j + (i - j) = i by omega, List.getElem?_eq_getElem (by omega)]
    rfl
  unfold linesAt
  rw [e, linesA, if_neg hn, e3, e2]
theorem linesAt_end (l : List UInt8) (j i : Nat) (hji : j ≤ i) (hi : i ≤ l.length) (h0 : l.length ≤ i + 1) : linesAt l j i = if j < l.length then [l.drop j] else [] := by
  unfold linesAt
  by_cases h1 : i = l.length
  · subst h1
    rw [List.drop_length, linesA]
    by_cases h2 : j < l.length
    · rw [if_pos h2, if_neg, List.take_of_length_le (by simp)]
      intro h3
      have := congrArg List.length h3
      simp at this
      omega
    · rw [if_neg h2, if_pos]
      rw [show l.length - j = 0 by omega, List.take_zero]
  · have e : l.drop i = [l[i]'(by omega)] := by
      rw [List.drop_eq_getElem_cons (by omega : i < l.length), List.drop_eq_nil_of_le (by omega)]
    rw [e, linesA, if_pos (by omega : j < l.length)]
    have e3 : (l.drop j).take (i + 1 - j) = (l.drop j).take (i - j) ++ [l[i]'(by omega)] := by
      rw [show i + 1 - j = i - j + 1 by omega, List.take_add_one, List.getElem?_drop, show j + (i - j) = i by omega, List.getElem?_eq_getElem (by omega)]
      rfl
    rw [← e3, List.take_of_length_le (by simp; omega)]

/-- The line begins with a blank. -/
def blankHead (l : List UInt8) : Bool := match l with | [] => false | b :: _ => blankB b
/-- A line more: it goes on, or begins. -/
def addLine (texts : List (List UInt8)) (l : List UInt8) : List (List UInt8) :=
  if blankHead l && decide (0 < texts.length) then texts.set (texts.length - 1) (texts.getD (texts.length - 1) [] ++ l) else texts ++ [l]
def joinT : List (List UInt8) → List (List UInt8) → List (List UInt8)
  | texts, [] => texts
  | texts, l :: r => joinT (addLine texts l) r

/-- A byte of a field's name. -/
def nameB (b : UInt8) : Bool := decide (33 ≤ b.toNat) && decide (b.toNat ≤ 126)
structure Fl where
  name : List UInt8
  body : List UInt8
/-- The field that a text is. -/
def fieldOf (t : List UInt8) : Option Fl :=
  if Lib.index t [58] < 1 then none
  else if (t.take (Lib.index t [58]).toNat).all nameB then some ⟨t.take (Lib.index t [58]).toNat, Lib.trimS (t.drop ((Lib.index t [58]).toNat + 1)) [32, 9]⟩
  else none
def fieldsL (s : List UInt8) : List Fl := (joinT [] (linesA [] s)).filterMap fieldOf

def flCells (l : List Fl) : List Value := l.flatMap fun x => [.string (mkB x.name), .string (mkB x.body)]
theorem flCells_len (l : List Fl) : (flCells l).length = l.length * 2 := by
  induction l with
  | nil => rfl
  | cons a r ih => simp [flCells] at ih ⊢; omega
theorem flCells_append (a b : List Fl) : flCells (a ++ b) = flCells a ++ flCells b := by simp [flCells]
theorem flCells_one (l : List Fl) : ∀ u ∈ flCells l, u.oneCell' = true := by
  intro u hu
  obtain ⟨x, hx, hy⟩ := List.mem_flatMap.1 hu
  simp only [List.mem_cons, List.not_mem_nil, or_false] at hy
  rcases hy with rfl | rfl <;> rfl

/-- How long all is together. -/
def total (l : List (List UInt8)) : Nat := (l.map List.length).foldr (· + ·) 0
theorem total_cons (a : List UInt8) (l : List (List UInt8)) : total (a :: l) = a.length + total l := rfl
theorem total_append (a b : List (List UInt8)) : total (a ++ b) = total a + total b := by
  induction a with
  | nil => simp [total]
  | cons x r ih => rw [List.cons_append, total_cons, total_cons, ih]; omega
theorem total_mem {l : List (List UInt8)} {x : List UInt8} (h : x ∈ l) : x.length ≤ total l := by
  induction l with
  | nil => cases h
  | cons a r ih =>
    rw [total_cons]
    rcases List.mem_cons.1 h with rfl | h
    · omega
    · have := ih h; omega
theorem total_set : ∀ (l : List (List UInt8)) (i : Nat) (x : List UInt8), i < l.length → total (l.set i (l.getD i [] ++ x)) = total l + x.length
  | [], _, _, h => by simp at h
  | a :: r, 0, x, _ => by simp [total_cons]; omega
  | a :: r, i + 1, x, h => by
    have := total_set r i x (by simpa using h)
    simp only [List.set_cons_succ, List.getD_cons_succ, total_cons, this]
    omega
theorem total_addLine (t : List (List UInt8)) (l : List UInt8) : total (addLine t l) = total t + l.length := by
  unfold addLine
  split
  · rename_i h
    have h2 : 0 < t.length := by
      simp at h
      exact h.2
    exact total_set t _ l (by omega)
  · rw [total_append, total_cons]
    simp [total]
theorem addLine_len (t : List (List UInt8)) (l : List UInt8) : (addLine t l).length ≤ t.length + 1 := by
  unfold addLine
  split <;> simp
theorem total_lines : ∀ (n : Nat) (acc l : List UInt8), l.length ≤ n → total (linesA acc l) ≤ acc.length + l.length ∧ (linesA acc l).length ≤ l.length + 1
  | n, acc, [], _ => by
    rw [linesA]
    split <;> simp [total]
  | n, acc, [b], _ => by
    rw [linesA]
    simp [total]
  | 0, acc, b :: c :: r, h => by simp at h
  | n + 1, acc, b :: c :: r, h => by
    rw [linesA]
    simp at h
    split
    · have := total_lines n [] r (by omega)
      rw [total_cons]
      simp at this ⊢
      omega
    · have := total_lines n (acc ++ [b]) (c :: r) (by simp; omega)
      simp at this ⊢
      omega
end Go.Proofs.YtjleadlecdcdeaaDoor

/-
  What a step may have turned: one block of the call's own, or nothing that was there.
-/
namespace Go.Proofs.YtjleadlecdcdeaaDoor
set_option linter.unusedVariables false
open Go.RowKit

theorem grownBy_one (w : World) (g j : Nat) (u : Value) : w.grownBy (w.setCell ⟨g, j, none⟩ u) (some g) :=
  ⟨rfl, rfl, rfl, by simp [World.setCell], fun k _ hn => Below.heap_setCell _ _ _ _ (by intro e; apply hn; rw [e])⟩
theorem grownBy_trans {a b c : World} {row : Option Nat} (h : a.grownBy b row) (k : b.grownBy c row) : a.grownBy c row :=
  ⟨k.os.trans h.os, k.tape.trans h.tape, k.output.trans h.output, Nat.le_trans h.size k.size, fun j hj hn => (k.block j (Nat.lt_of_lt_of_le hj h.size) hn).trans (h.block j hj hn)⟩
theorem grownBy_drewN {a b : World} {row : Option Nat} (h : a.grownBy b row) (n : Nat) : a.grownBy (b.drewN n) row := ⟨h.os, h.tape, h.output, h.size, h.block⟩

theorem grownBy_refl (w : World) (row : Option Nat) : w.grownBy w row := ⟨rfl, rfl, rfl, Nat.le_refl _, fun _ _ _ => rfl⟩
theorem grownBy_below {a w w' : World} {row : Option Nat} (h : a.grownBy w row) (hb : Below w.heap.size w w') : a.grownBy w' row :=
  ⟨hb.os.trans h.os, hb.tape.trans h.tape, hb.output.trans h.output, Nat.le_trans h.size hb.size, fun k hk hn => (hb.block k (by have := h.size; omega)).trans (h.block k hk hn)⟩
theorem grownBy_set {a w : World} {g : Nat} (h : a.grownBy w (some g)) (j : Nat) (u : Value) : a.grownBy (w.setCell ⟨g, j, none⟩ u) (some g) :=
  ⟨h.os, h.tape, h.output, by simpa [World.setCell] using h.size, fun k hk hn => (Below.heap_setCell _ _ _ _ (by intro e; apply hn; rw [e])).trans (h.block k hk hn)⟩
theorem row_below {w w' : World} {B : Nat} {e : TypeId} {n : Nat} {v : Value} {xs : List Value} (h : w.ownsRow B e 1 v n xs) (hb : Below w.heap.size w w') : w'.ownsRow B e 1 v n xs :=
  h.kept (row := none) ⟨hb.os, hb.tape, hb.output, hb.size, fun k hk _ => hb.block k hk⟩ (by
    cases hv : v.ownBlock with
    | none => exact .inl rfl
    | some g => exact .inr (by simp))
/-- A row that was there ahead of another one stays as it is when the other one is written. -/
theorem row_ahead {w w' wA : World} {B B3 : Nat} {e e3 : TypeId} {v v3 : Value} {n n3 : Nat} {xs xs3 : List Value} (h : w.ownsRow B e 1 v n xs) (hA : wA.ownsRow B e 1 v n xs) (h3 : w.ownsRow B3 e3 1 v3 n3 xs3) (hB : wA.heap.size ≤ B3) (hg : w.grownBy w' v3.ownBlock) : w'.ownsRow B e 1 v n xs := by
  refine h.kept hg ?_
  cases hv : v.ownBlock with
  | none => exact .inl rfl
  | some k =>
    refine .inr (fun e2 => ?_)
    have h1 := (hA.lt k hv).2
    have h2 := (h3.lt k e2.symm).1
    omega
/-- .. and so does one that was made behind it. -/
theorem row_behind {w w' wA : World} {B B3 : Nat} {e e3 : TypeId} {v v3 : Value} {n n3 : Nat} {xs xs3 : List Value} (h : w.ownsRow B e 1 v n xs) (hA : wA.ownsRow B3 e3 1 v3 n3 xs3) (hB : wA.heap.size ≤ B) (hg : w.grownBy w' v3.ownBlock) : w'.ownsRow B e 1 v n xs := by
  refine h.kept hg ?_
  cases hv : v.ownBlock with
  | none => exact .inl rfl
  | some k =>
    refine .inr (fun e2 => ?_)
    have h1 := (h.lt k hv).1
    have h2 := (hA.lt k e2.symm).2
    omega
theorem below_row {w0 w w' : World} {B B3 : Nat} {e3 : TypeId} {v3 : Value} {n3 : Nat} {xs3 : List Value} (hb : Below B w0 w) (h3 : w.ownsRow B3 e3 1 v3 n3 xs3) (hB : B ≤ B3) (hs : B ≤ w.heap.size) (hg : w.grownBy w' v3.ownBlock) : Below B w0 w' :=
  hb.grown hg hs (fun k e => Nat.le_trans hB (h3.lt k e).1)
/-- A row that lies behind block g stays behind an act on g alone. -/
theorem row_stay {wr w1 : World} {g B : Nat} {e : TypeId} {v : Value} {n : Nat} {xs : List Value} (hlt : g < B) (hrow : wr.ownsRow B e 1 v n xs) (hg : wr.grownBy w1 (some g)) : w1.ownsRow B e 1 v n xs := by
  refine hrow.kept hg ?_
  cases hv : v.ownBlock with
  | none => exact .inl rfl
  | some k =>
    refine .inr (fun e2 => ?_)
    have e3 := Option.some.inj e2
    have := (hrow.lt k hv).1
    omega
/-- What an append to such a row leaves. -/
theorem app_stay {w wr w1 : World} {g : Nat} {e : TypeId} {v : Value} {n : Nat} {xs : List Value} {tmp : Obj} (hgw : w.grownBy wr (some g)) (hlt : g < w.heap.size)
    (hrow : wr.ownsRow w.heap.size e 1 v n xs) (hgrow : (wr.alloc tmp).grownBy w1 v.ownBlock) : w1.heap[g]? = wr.heap[g]? ∧ w.grownBy w1 (some g) := by
  have hs := hgw.size
  have hb : ∀ k, k < w.heap.size → w1.heap[k]? = wr.heap[k]? := fun k hk => by
    rw [hgrow.block k (by simp; omega) (fun e' => by have := (hrow.lt k e'.symm).1; omega)]
    exact Below.heap_alloc _ _ _ (by omega)
  have hsz : wr.heap.size ≤ w1.heap.size := by have := hgrow.size; simp at this; omega
  exact ⟨hb g hlt, ⟨hgrow.os.trans hgw.os, hgrow.tape.trans hgw.tape, hgrow.output.trans hgw.output, Nat.le_trans hs hsz, fun k hk hn => (hb k hk).trans (hgw.block k hk hn)⟩⟩
end Go.Proofs.YtjleadlecdcdeaaDoor

/-
  An append to a row of the call's own, where another such row stands beside: which block it lies in behind. (XTwo's law, for any elements.)
-/
namespace Go.Proofs.YtjleadlecdcdeaaDoor
set_option linter.unusedVariables false
open Go.RowKit

theorem append_whereG {P : Program} (w : World) (base : Nat) (t ty e : TypeId) (i : TypeInfo) (z : Value) (size bytes : Nat) (ht : P.underlying t = some (.slice e)) (hi : P.info? e = some i) (hz : i.zero = some z)
    (hsize : i.size = size) (hby : i.bytes = bytes) (hzs : z.cells.size = size) (hsz : 0 < size) (hb64 : bytes ≤ 4096) (v : Value) (n : Nat) (xs : List Value) (hown : w.ownsRow base e size v n xs)
    (a : Addr) (m c : Nat) (news : List Value) (hl : news.length = m * size) (hnews : ∀ j u, news[j]? = some u → w.cell? (a.add j) = some u) (h1 : ∀ u ∈ news, u.oneCell' = true)
    (hsmall : n + m ≤ 1000000000) (hbase : base ≤ w.heap.size) :
    ∃ v' w', (Builtin.append_ #[t, t] ty #[v, .slice (some a) m c]).run P w = .ok v' w' ∧ w'.ownsRow base e size v' (n + m) (xs ++ news) ∧ w.grownBy w' v.ownBlock ∧
      (∀ g, v'.ownBlock = some g → v.ownBlock = some g ∨ w.heap.size ≤ g) := by
  have hbb : (n + m) * bytes ≤ 140737488355328 := by
    have : (n + m) * bytes ≤ 1000000000 * 4096 := Nat.mul_le_mul hsmall hb64
    omega
  obtain ⟨v', w', hr, h2, h3, _⟩ := run_append_own (P := P) w base t ty e i z size bytes ht hi hz hsize hby hzs hsz v n xs hown a m c news hl hnews h1 (by unfold maxLen; omega) hbb hbase
  refine ⟨v', w', hr, h2, h3, fun g hg => ?_⟩
  rcases hown.2 with ⟨rfl, rfl⟩ | ⟨g0, cap, cur, rfl, hbg, hgg, hnc, hcm, hcs, htake⟩
  · have hx : xs = [] := List.eq_nil_of_length_eq_zero (by simpa using hown.1)
    subst hx
    obtain ⟨v2, w2, hr2, k2, _, _⟩ := run_append_own (P := P) w w.heap.size t ty e i z size bytes ht hi hz hsize hby hzs hsz (.slice none 0 0) 0 [] (World.ownsRow_nil _ _ _ _) a m c news hl hnews h1 (by unfold maxLen; omega) hbb (Nat.le_refl _)
    rw [hr] at hr2
    injection hr2 with e1 e2
    subst e1
    subst e2
    exact .inr (k2.lt g hg).1
  · subst hsize
    by_cases hroom : n + m ≤ cap
    · have hfit : n * i.size + news.length ≤ cur.size := by
        rw [hcs, hl, ← Nat.add_mul]
        exact Nat.mul_le_mul_right _ hroom
      have hr2 := run_append_room (P := P) w t ty e i ht hi g0 n cap cur hgg a m c news hl hnews h1 hroom hfit
      rw [hr] at hr2
      injection hr2 with e1 _
      subst e1
      exact .inl hg
    · have hr2 := run_append_grow (P := P) w t ty e i z ht hi hz ⟨g0, 0, none⟩ n cap xs hown.1 (hown.cells (g := g0) rfl) a m c news hl hnews (by omega) (by omega) (growslice_fits (by omega) (by rw [hby]; exact hbb))
      rw [hr] at hr2
      injection hr2 with e1 _
      subst e1
      right
      have : some w.heap.size = some g := hg
      rw [Option.some.inj this]
      exact Nat.le_refl _

theorem wpList_append_whereG {P : Program} {ops : Array Oper} {rest : List Oper} {o : Oper} {act : Act} {w : World} {Q : Exit → Act → World → Prop} (hgd : o.guard = none) (sl x : Operand) (t : TypeId)
    (ho : o.op = .call { callee := .builtin .append, args := #[sl, x], argTypes := #[t, t] })
    (base : Nat) (e : TypeId) (i : TypeInfo) (z : Value) (size bytes : Nat) (ht : P.underlying t = some (.slice e)) (hi : P.info? e = some i) (hz : i.zero = some z) (hsize : i.size = size) (hby : i.bytes = bytes) (hzs : z.cells.size = size) (hsz : 0 < size) (hb64 : bytes ≤ 4096)
    (v : Value) (n : Nat) (xs : List Value) (hs : act.eval sl = v) (hown : w.ownsRow base e size v n xs)
    (ad : Addr) (m c : Nat) (news : List Value) (hx : act.eval x = .slice (some ad) m c) (hl : news.length = m * size) (hnews : ∀ j u, news[j]? = some u → w.cell? (ad.add j) = some u) (h1 : ∀ u ∈ news, u.oneCell' = true)
    (hsmall : n + m ≤ 1000000000) (hbase : base ≤ w.heap.size)
    (h : ∀ v' w', w'.ownsRow base e size v' (n + m) (xs ++ news) → w.grownBy w' v.ownBlock → (∀ g, v'.ownBlock = some g → v.ownBlock = some g ∨ w.heap.size ≤ g) → wpList P ops Q rest (act.put o.dst v') w') : wpList P ops Q (o :: rest) act w := by
  refine wpList_plain hgd fun _ hK => ?_
  obtain ⟨v', w', hr, h2, h3, h4⟩ := append_whereG (P := P) w base t o.type e i z size bytes ht hi hz hsize hby hzs hsz hb64 v n xs hown ad m c news hl hnews h1 hsmall hbase
  unfold Oper.wp execOp
  simp only [ho, resolve, invoke, builtin, Sem.run_bind, Sem.run_pure, Result.andThen_ok, List.map_toArray, List.map_cons, List.map_nil, hs, hx, hr]
  exact hK _ _ (h v' w' h2 h3 h4)
/-- Another row stays behind such an append. -/
theorem row_staysG {w w' : World} {B2 k2 : Nat} {e2 : TypeId} {v1 v2 : Value} {n2 : Nat} {xs2 : List Value} (h2 : w.ownsRow B2 e2 k2 v2 n2 xs2) (hg : w.grownBy w' v1.ownBlock) (hne : ∀ g, v1.ownBlock = some g → v2.ownBlock ≠ some g) : w'.ownsRow B2 e2 k2 v2 n2 xs2 :=
  h2.kept hg (by
    cases h : v2.ownBlock with
    | none => exact .inl rfl
    | some g =>
      right
      intro e
      exact hne g e.symm h)
/-- Two rows of the call's own in two blocks. -/
def Apart (v1 v2 : Value) : Prop := ∀ g, v1.ownBlock = some g → v2.ownBlock ≠ some g
theorem Apart.more {w : World} {v v' v2 : Value} {B2 k2 n2 : Nat} {e2 : TypeId} {xs2 : List Value} (h : Apart v v2) (h2 : w.ownsRow B2 e2 k2 v2 n2 xs2) (hw : ∀ g, v'.ownBlock = some g → v.ownBlock = some g ∨ w.heap.size ≤ g) : Apart v' v2 := fun g hg hx => by
  rcases hw g hg with h3 | h3
  · exact h g h3 hx
  · have := (h2.lt g hx).2
    omega
end Go.Proofs.YtjleadlecdcdeaaDoor

/-
  A row of bytes of the call's own: what a conversion of a string to bytes lays, read, written, and turned back.
-/
namespace Go.Proofs.YtjleadlecdcdeaaDoor
set_option linter.unusedVariables false
open Go.RowKit

def bv (b : UInt8) : Value := .int .u8 (b.toNat : Int)

/-- Block g holds, ahead of its mark, the bytes l. -/
def Buf (w : World) (g : Nat) (T : TypeId) (l : List UInt8) : Prop :=
  ∃ cs lo hi, w.heap[g]? = some (.cells cs T (lo, hi)) ∧ (l.length ≤ lo ∨ hi ≤ lo) ∧ ∀ j, j < l.length → cs[j]? = some (bv (l.getD j 0))

theorem Buf.lt {w : World} {g : Nat} {T : TypeId} {l : List UInt8} (h : Buf w g T l) : g < w.heap.size := by
  obtain ⟨cs, lo, hi, hg, _, _⟩ := h
  exact (Array.getElem?_eq_some_iff.1 hg).1

theorem Buf.cell {w : World} {g : Nat} {T : TypeId} {l : List UInt8} (h : Buf w g T l) (j : Nat) (hj : j < l.length) : w.cell? ⟨g, j, none⟩ = some (bv (l.getD j 0)) := by
  obtain ⟨cs, lo, hi, hg, _, hc⟩ := h
  simp only [World.cell?, hg]
  simpa using hc j hj

theorem Buf.free {w : World} {g : Nat} {T : TypeId} {l : List UInt8} (h : Buf w g T l) (j : Nat) (hj : j < l.length) : w.frozen? ⟨g, j, none⟩ = false := by
  obtain ⟨cs, lo, hi, hg, hl, _⟩ := h
  simp only [World.frozen?, hg]
  rcases hl with h1 | h1
  · have : decide (lo ≤ j) = false := by simp; omega
    simp [this]
  · have : (decide (lo ≤ j) && decide (j < hi)) = false := by
      rw [Bool.and_eq_false_iff]
      by_cases h2 : lo ≤ j
      · right; simp; omega
      · left; simp; omega
    simpa using this

theorem Buf.store {w : World} {g : Nat} {T : TypeId} {l : List UInt8} (h : Buf w g T l) (j : Nat) (hj : j < l.length) (b : UInt8) : Buf (w.setCell ⟨g, j, none⟩ (bv b)) g T (l.set j b) := by
  obtain ⟨cs, lo, hi, hg, hl, hc⟩ := h
  refine ⟨cs.setIfInBounds j (bv b), lo, hi, ?_, by simpa using hl, ?_⟩
  · rw [setCell_eq_setRow w g j cs T (lo, hi) (bv b) hg]
    exact setRow_heap w g cs _ T _ hg
  · intro i hi'
    simp only [List.length_set] at hi'
    rw [Array.getElem?_setIfInBounds]
    by_cases e : j = i
    · subst e
      have hs : j < cs.size := by
        have := hc j hj
        exact (Array.getElem?_eq_some_iff.1 this).1
      simp [hs, List.getD, hj]
    · rw [if_neg e, hc i hi']
      simp [List.getD, e]

theorem Buf.drew {w : World} {g : Nat} {T : TypeId} {l : List UInt8} (h : Buf w g T l) : Buf w.drew g T l := h
theorem Buf.of_heap {w w' : World} {g : Nat} {T : TypeId} {l : List UInt8} (h : Buf w g T l) (e : w'.heap[g]? = w.heap[g]?) : Buf w' g T l := by
  obtain ⟨cs, lo, hi, hg, hl, hc⟩ := h
  exact ⟨cs, lo, hi, e.trans hg, hl, hc⟩
theorem Buf.below {B : Nat} {w w' : World} {g : Nat} {T : TypeId} {l : List UInt8} (h : Buf w g T l) (hb : Below B w w') (hg : g < B) : Buf w' g T l := h.of_heap (hb.block g hg)
theorem Buf.alloc {w : World} {g : Nat} {T : TypeId} {l : List UInt8} (h : Buf w g T l) (o : Obj) : Buf (w.alloc o) g T l := h.of_heap (Below.heap_alloc w o g h.lt)
theorem Buf.other {w : World} {g : Nat} {T : TypeId} {l : List UInt8} (h : Buf w g T l) (a : Addr) (ha : g ≠ a.block) (u : Value) : Buf (w.setCell a u) g T l := h.of_heap (Below.heap_setCell w a u g ha)

/-- 'string(b)'. -/
theorem Buf.back {P : Program} {w : World} {g : Nat} {T : TypeId} {l : List UInt8} (h : Buf w g T l) (src dst e : TypeId) (cap n : Nat) (hn : n = l.length) (hs : P.underlying src = some (.slice e)) (he : P.underlying e = some (.int .u8)) (hd : P.underlying dst = some .string) :
    (convert src dst (.slice (some ⟨g, 0, none⟩) n cap)).run P w = .ok (.string ⟨l.toArray⟩) w := by
  subst hn
  refine run_convert_bytes_back w src dst e ⟨g, 0, none⟩ cap l hs he hd fun j hj => ?_
  have hadd : (⟨g, 0, none⟩ : Addr).add j = ⟨g, j, none⟩ := by unfold Addr.add; split <;> simp_all
  rw [hadd, h.cell j hj]
  simp [bv, List.getD, hj]

/-- '[]byte(s)'. -/
theorem conv_bytes {P : Program} (w : World) (src dst e : TypeId) (s : ByteArray) (hs : P.underlying src = some .string) (hd : P.underlying dst = some (.slice e)) (he : P.underlying e = some (.int .u8)) :
    ∃ W cap, (convert src dst (.string s)).run P w = .ok (.slice (some ⟨w.heap.size, 0, none⟩) s.size cap) W ∧ Buf W w.heap.size e s.data.toList ∧ Below w.heap.size w W ∧ W.heap.size = w.heap.size + 1 := by
  refine ⟨_, _, run_bytes_of_string w src dst e s hs hd he, ?_, ((Below.refl _ _).drew).alloc (Nat.le_refl _) _, by simp⟩
  refine ⟨_, _, _, heap_alloc_new _ _, ?_, ?_⟩
  · left
    simp [bytesRow]
  · intro j hj
    rw [bytesRow_at _ _ _ (by simpa using hj)]
    have hj' : j < s.data.size := by simpa using hj
    simp [bv, List.getD]
    rw [Array.getElem?_eq_getElem hj']
    rfl
end Go.Proofs.YtjleadlecdcdeaaDoor

/-
  A row of bytes of the call's own: appended to, and turned to a string.
-/
namespace Go.Proofs.YtjleadlecdcdeaaDoor
set_option linter.unusedVariables false
open Go.RowKit

theorem infoByteJ : (Tryd.prog.info? 5).map (fun i => (i.zero, i.size, i.bytes)) = some (some (.int .u8 0), 1, 1) := by kernel_rfl
theorem strCells_bv (s : ByteArray) : Lib.strCells s = s.data.toList.map bv := rfl
theorem row_app {w : World} {B : Nat} {T : TypeId} {v : Value} {L : List UInt8} {s : ByteArray} (h : w.ownsRow B T 1 v (L.length + s.size) (L.map bv ++ Lib.strCells s)) :
    w.ownsRow B T 1 v (L ++ s.data.toList).length ((L ++ s.data.toList).map bv) := by
  rw [strCells_bv] at h
  simpa using h
theorem rowJ_form {w : World} {B : Nat} {e : TypeId} {v : Value} {n : Nat} {xs : List Value} (h : w.ownsRow B e 1 v n xs) : (v = .slice none 0 0 ∧ n = 0) ∨ ∃ g cap, v = .slice (some ⟨g, 0, none⟩) n cap ∧ n ≤ cap := by
  rcases h.2 with ⟨rfl, rfl⟩ | ⟨g, cap, cur, rfl, _, _, hc, _⟩
  · exact .inl ⟨rfl, rfl⟩
  · exact .inr ⟨g, cap, rfl, hc⟩
theorem rowJ_back {P : Program} {w : World} {B : Nat} {v : Value} {T : TypeId} {l : List UInt8} (h : w.ownsRow B T 1 v l.length (l.map bv)) (src dst e : TypeId) (hs : P.underlying src = some (.slice e)) (he : P.underlying e = some (.int .u8)) (hd : P.underlying dst = some .string) :
    (convert src dst v).run P w = .ok (.string ⟨l.toArray⟩) w := by
  rcases rowJ_form h with ⟨rfl, h0⟩ | ⟨g, cap, rfl, hcap⟩
  · obtain rfl : l = [] := List.eq_nil_of_length_eq_zero h0
    simp [convert, run_underlying hs, run_underlying hd, run_underlying he, Conv.bytesToString, Sem.run_pure]
    rfl
  · exact run_convert_bytes_back (P := P) w src dst e ⟨g, 0, none⟩ cap l hs he hd (fun j hj => by
      have hadd : (⟨g, 0, none⟩ : Addr).add j = ⟨g, j, none⟩ := by unfold Addr.add; split <;> simp_all
      rw [hadd, h.cellAt j (by omega), List.getElem?_map, List.getElem?_eq_getElem (by omega)]
      simp [bv])
end Go.Proofs.YtjleadlecdcdeaaDoor

/-
  Rows of the call's own: small lemmas.
-/
namespace Go.Proofs.YtjleadlecdcdeaaDoor
set_option linter.unusedVariables false
open Go.RowKit

theorem cells2_0 (w : World) (a b : Value) (T : TypeId) : (w.alloc (.cells #[a, b] T)).cell? ⟨w.heap.size, 0, none⟩ = some a := by
  rw [World.cell?, heap_alloc_new]
  rfl
theorem cells2_1 (w : World) (a b : Value) (T : TypeId) : (w.alloc (.cells #[a, b] T)).cell? ⟨w.heap.size, 1, none⟩ = some b := by
  rw [World.cell?, heap_alloc_new]
  rfl
theorem drop_cons {α : Type} (l : List α) (k : Nat) (h : k < l.length) : l.drop k = l[k] :: l.drop (k + 1) := List.drop_eq_getElem_cons h
theorem row_lat {w w' : World} {B k : Nat} {e : TypeId} {n : Nat} {v : Value} {xs : List Value} (h : w.ownsRow B e k v n xs) (hb : Below w.heap.size w w') : w'.ownsRow B e k v n xs :=
  h.kept (row := none) ⟨hb.os, hb.tape, hb.output, hb.size, fun k hk _ => hb.block k hk⟩ (by
    cases hv : v.ownBlock with
    | none => exact .inl rfl
    | some g => exact .inr (by simp))
theorem row_baseL {w : World} {base base' k : Nat} {e : TypeId} {v : Value} {n : Nat} {xs : List Value} (h : w.ownsRow base e k v n xs) (hb : base' ≤ base) : w.ownsRow base' e k v n xs := by
  obtain ⟨h1, h | ⟨g, cap, cur, h2, h3, h4⟩⟩ := h
  · exact ⟨h1, .inl h⟩
  · exact ⟨h1, .inr ⟨g, cap, cur, h2, Nat.le_trans hb h3, h4⟩⟩
theorem cell_two_new (w : World) (a b : Value) (T : TypeId) (g : Nat) (hg : g = w.heap.size) : ∀ j u, [a, b][j]? = some u → (w.alloc (.cells #[a, b] T)).cell? ((⟨g, 0, none⟩ : Addr).add j) = some u := by
  subst hg
  intro j u h
  match j, h with
  | 0, h => rw [← Option.some.inj h]; exact cells2_0 w a b T
  | 1, h => rw [← Option.some.inj h]; exact cells2_1 w a b T
  | j + 2, h => simp at h
theorem cellAt_str {w : World} {B : Nat} {e : TypeId} {g cap n : Nat} {l : List (List UInt8)} (h : w.ownsRow B e 1 (.slice (some ⟨g, 0, none⟩) n cap) n ((l.map mkB).map Value.string)) (k : Nat) (hk : k < l.length) (hn : n = l.length) : w.cell? ⟨g, k, none⟩ = some (.string (mkB (l[k]))) := by
  have := h.cellAt k (by omega)
  rw [this]
  simp [hk]
theorem row_slice {w : World} {B k : Nat} {e : TypeId} {v : Value} {n : Nat} {xs : List Value} (h : w.ownsRow B e k v n xs) : ∃ p cap, v = .slice p n cap := by
  rcases h with ⟨_, ⟨rfl, rfl⟩ | ⟨g, cap, cur, rfl, _⟩⟩
  · exact ⟨_, _, rfl⟩
  · exact ⟨_, _, rfl⟩
theorem row_slice1 {w : World} {B k : Nat} {e : TypeId} {v : Value} {n : Nat} {xs : List Value} (h : w.ownsRow B e k v n xs) (hn : 0 < n) : ∃ g cap, v = .slice (some ⟨g, 0, none⟩) n cap := by
  rcases h with ⟨_, ⟨rfl, rfl⟩ | ⟨g, cap, cur, rfl, _⟩⟩
  · omega
  · exact ⟨_, _, rfl⟩
end Go.Proofs.YtjleadlecdcdeaaDoor

/-
  Param: the record, and a slice at which such lie.
-/
namespace Go.Proofs.YtjleadlecdcdeaaDoor
set_option linter.unusedVariables false
open Go.RowKit

structure Pr where
  name : List UInt8
  value : List UInt8
def prCells (l : List Pr) : List Value := l.flatMap fun x => [.string (mkB x.name), .string (mkB x.value)]
theorem prCells_len (l : List Pr) : (prCells l).length = l.length * 2 := by
  induction l with
  | nil => rfl
  | cons a r ih => simp [prCells] at ih ⊢; omega
theorem prCells_append (a b : List Pr) : prCells (a ++ b) = prCells a ++ prCells b := by simp [prCells]
theorem prCells_one (l : List Pr) : ∀ u ∈ prCells l, u.oneCell' = true := by
  intro u hu
  obtain ⟨x, hx, hy⟩ := List.mem_flatMap.1 hu
  simp only [List.mem_cons, List.not_mem_nil, or_false] at hy
  rcases hy with rfl | rfl <;> rfl
theorem prCells_at : ∀ (l : List Pr) (k : Nat) (h : k < l.length), (prCells l)[k * 2]? = some (.string (mkB l[k].name)) ∧ (prCells l)[k * 2 + 1]? = some (.string (mkB l[k].value))
  | [], k, h => absurd h (by simp)
  | a :: r, 0, h => ⟨rfl, rfl⟩
  | a :: r, k + 1, h => by
    have := prCells_at r k (by simpa using h)
    rw [show (k + 1) * 2 = k * 2 + 1 + 1 by omega, show prCells (a :: r) = .string (mkB a.name) :: .string (mkB a.value) :: prCells r from rfl]
    simpa using this
/-- A slice at which such lie. -/
def PrsAt (w : World) (v : Value) (l : List Pr) : Prop :=
  (l = [] ∧ ∃ p cap, v = .slice p 0 cap) ∨ ∃ g off cap, v = .slice (some ⟨g, off, none⟩) l.length cap ∧ g < w.heap.size ∧ ∀ k, (h : k < l.length) → w.cell? ⟨g, off + k * 2, none⟩ = some (.string (mkB l[k].name)) ∧ w.cell? ⟨g, off + k * 2 + 1, none⟩ = some (.string (mkB l[k].value))
theorem prs_of_row {w : World} {B : Nat} {e : TypeId} {v : Value} {l : List Pr} (h : w.ownsRow B e 2 v l.length (prCells l)) : PrsAt w v l := by
  have h2 := h
  rcases h with ⟨h1, ⟨rfl, h0⟩ | ⟨g, cap, cur, rfl, hr⟩⟩
  · exact .inl ⟨List.eq_nil_of_length_eq_zero h0, _, _, rfl⟩
  · refine .inr ⟨g, 0, cap, rfl, (h2.lt g rfl).2, fun k hk => ?_⟩
    rw [Nat.zero_add, h2.cellAt (k * 2) (by omega), h2.cellAt (k * 2 + 1) (by omega)]
    exact prCells_at l k hk
theorem PrsAt.later {w w' : World} {v : Value} {l : List Pr} {B : Nat} (h : PrsAt w v l) (hb : Below B w w') (hB : w.heap.size ≤ B) : PrsAt w' v l := by
  rcases h with h | ⟨g, off, cap, h1, h2, h3⟩
  · exact .inl h
  · refine .inr ⟨g, off, cap, h1, Nat.lt_of_lt_of_le h2 hb.size, fun k hk => ?_⟩
    rw [hb.cell (p := ⟨g, off + k * 2, none⟩) (by show g < B; omega), hb.cell (p := ⟨g, off + k * 2 + 1, none⟩) (by show g < B; omega)]
    exact h3 k hk
theorem PrsAt.slice {w : World} {v : Value} {l : List Pr} (h : PrsAt w v l) : ∃ p cap, v = .slice p l.length cap := by
  rcases h with ⟨rfl, p, cap, rfl⟩ | ⟨g, off, cap, rfl, _⟩
  · exact ⟨p, cap, rfl⟩
  · exact ⟨_, cap, rfl⟩
theorem infoPr : (Tryd.prog.info? 45).map (fun i => (i.zero, i.size, i.bytes)) = some (some (.agg #[.string ⟨#[]⟩, .string ⟨#[]⟩]), 2, 32) := by kernel_rfl
/-- The call hands back a slice that owns such; nothing that was there has turned. -/
def GivesPrs (l : List Pr) (w : World) (e : Ending) (w' : World) : Prop :=
  ∃ v, e = .returned v ∧ w'.ownsRow w.heap.size 45 2 v l.length (prCells l) ∧ Below w.heap.size w w'
end Go.Proofs.YtjleadlecdcdeaaDoor

/-
  Kinds: the record.
-/
namespace Go.Proofs.YtjleadlecdcdeaaDoor
set_option linter.unusedVariables false
open Go.RowKit

structure Kd where
  type : List UInt8
  sub : List UInt8
  params : List Pr
end Go.Proofs.YtjleadlecdcdeaaDoor

/-
  Trim: plain facts.
-/
namespace Go.Proofs.YtjleadlecdcdeaaDoor
set_option linter.unusedVariables false
open Go.RowKit

theorem dw_fix (p : UInt8 → Bool) (l : List UInt8) (h : ∀ b, l.head? = some b → p b = false) : l.dropWhile p = l := by
  cases l with
  | nil => rfl
  | cons a l => rw [List.dropWhile_cons, h a rfl]; rfl
theorem dw_head (p : UInt8 → Bool) : ∀ (l : List UInt8) (b : UInt8), (l.dropWhile p).head? = some b → p b = false := by
  intro l
  induction l with
  | nil => intro b h; cases h
  | cons a l ih =>
    intro b h
    rw [List.dropWhile_cons] at h
    cases hp : p a
    · rw [hp] at h
      injection h with h
      subst h; exact hp
    · rw [hp] at h
      exact ih b h
theorem trim_twice (l cs : List UInt8) : Lib.trimS (Lib.trimS l cs) cs = Lib.trimS l cs := by
  unfold Lib.trimS
  generalize hy : Lib.trimRightS l cs = y
  have h1 : Lib.trimRightS (Lib.trimLeftS y cs) cs = Lib.trimLeftS y cs := by
    unfold Lib.trimRightS
    rw [dw_fix, List.reverse_reverse]
    intro b hb
    obtain ⟨t, ht⟩ := List.dropWhile_suffix (l := y) (cs.contains ·)
    have h2 : y.reverse.head? = some b := by
      rw [← ht, List.reverse_append]
      unfold Lib.trimLeftS at hb
      rw [List.head?_append, hb]; rfl
    rw [← hy] at h2
    unfold Lib.trimRightS at h2
    rw [List.reverse_reverse] at h2
    exact dw_head _ _ b h2
  rw [h1]
  unfold Lib.trimLeftS
  exact dw_fix _ _ (dw_head _ y)
theorem dw_out (p : UInt8 → Bool) (l : List UInt8) (a c : UInt8) (ha : p a = true) (hc : p c = true) : (([a] ++ l ++ [c]).reverse.dropWhile p).reverse.dropWhile p = (l.reverse.dropWhile p).reverse.dropWhile p := by
  have e : ([a] ++ l ++ [c]).reverse = c :: (l.reverse ++ [a]) := by simp
  rw [e, List.dropWhile_cons, if_pos hc, List.dropWhile_append]
  cases hd : l.reverse.dropWhile p with
  | nil => simp [ha]
  | cons x xs => simp [ha]
theorem trim_out (l cs : List UInt8) (a c : UInt8) (ha : cs.contains a = true) (hc : cs.contains c = true) : Lib.trimS ([a] ++ l ++ [c]) cs = Lib.trimS l cs :=
  dw_out (cs.contains ·) l a c ha hc
end Go.Proofs.YtjleadlecdcdeaaDoor

/-
  Words: plain lists of bytes (what an atom is, how a text is quoted).
-/
namespace Go.Proofs.YtjleadlecdcdeaaDoor
set_option linter.unusedVariables false
open Go.RowKit

def hasL (b : UInt8) (l : List UInt8) : Bool := l.any fun x => x == b
def specials : List UInt8 := [40, 41, 123, 37, 42, 34, 92, 93]
/-- A byte of an atom. -/
def atomB (b : UInt8) : Bool := decide (33 ≤ b.toNat ∧ b.toNat ≤ 126) && !hasL b specials
def atomOk (l : List UInt8) : Bool := l.all atomB && !l.isEmpty
def plainB (b : UInt8) : Bool := decide (32 ≤ b.toNat ∧ b.toNat ≤ 126)
def plainAll (l : List UInt8) : Bool := l.all plainB
def escB (b : UInt8) : List UInt8 := if b = 34 ∨ b = 92 then [92, b] else [b]
def quoteL (l : List UInt8) : List UInt8 := 34 :: l.flatMap escB ++ [34]
theorem hasL_take (b : UInt8) (l : List UInt8) (k : Nat) (h : k < l.length) : hasL b (l.take (k + 1)) = (hasL b (l.take k) || (l.getD k 0 == b)) := by
  unfold hasL
  rw [List.take_add_one, List.any_append, List.getD_eq_getElem?_getD, List.getElem?_eq_getElem h]
  simp
theorem all_take (p : UInt8 → Bool) (l : List UInt8) (k : Nat) (h : k < l.length) : (l.take (k + 1)).all p = ((l.take k).all p && p (l.getD k 0)) := by
  rw [List.take_add_one, List.all_append, List.getD_eq_getElem?_getD, List.getElem?_eq_getElem h]
  simp
theorem all_false (p : UInt8 → Bool) (l : List UInt8) (k : Nat) (h : k < l.length) (hp : p (l.getD k 0) = false) : l.all p = false := by
  cases ha : l.all p with
  | false => rfl
  | true =>
    rw [List.all_eq_true] at ha
    have := ha (l.getD k 0) (by
      rw [List.getD_eq_getElem?_getD, List.getElem?_eq_getElem h]
      exact List.getElem_mem _)
    rw [hp] at this
    cases this
theorem has_true (b : UInt8) (l : List UInt8) (k : Nat) (h : k < l.length) (hp : l.getD k 0 = b) : hasL b l = true := by
  unfold hasL
  rw [List.any_eq_true]
  refine ⟨l.getD k 0, ?_, by rw [hp]; exact beq_self_eq_true _⟩
  rw [List.getD_eq_getElem?_getD, List.getElem?_eq_getElem h]
  exact List.getElem_mem _
theorem quote_len (l : List UInt8) : (quoteL l).length ≤ 2 * l.length + 2 := by
  unfold quoteL
  have : (l.flatMap escB).length ≤ 2 * l.length := by
    induction l with
    | nil => simp
    | cons b l ih =>
      rw [List.flatMap_cons, List.length_append, List.length_cons]
      have : (escB b).length ≤ 2 := by unfold escB; split <;> simp
      omega
  rw [List.length_append, List.length_cons, List.length_singleton]
  omega
end Go.Proofs.YtjleadlecdcdeaaDoor

/-
  Addresses: plain (Unquote, Commas).
-/
namespace Go.Proofs.YtjleadlecdcdeaaDoor
set_option linter.unusedVariables false
open Go.RowKit

/-- Backslashes struck, but the last one. -/
def unesc : List UInt8 → List UInt8
  | [] => []
  | [b] => [b]
  | b :: c :: r => if b = 92 then c :: unesc r else b :: unesc (c :: r)
/-- .. where the byte ahead was (e) a backslash that counts. -/
def unescA (e : Bool) (l : List UInt8) : List UInt8 :=
  if e then (match l with | [] => [] | c :: r => c :: unesc r) else unesc l
theorem unesc_cons (b : UInt8) (r : List UInt8) (h : b ≠ 92) : unesc (b :: r) = b :: unesc r := by
  cases r with
  | nil => simp [unesc]
  | cons c r => rw [unesc, if_neg h]
theorem unesc_len : ∀ (n : Nat) (l : List UInt8), l.length ≤ n → (unesc l).length ≤ l.length
  | _, [], _ => by simp [unesc]
  | _, [b], _ => by simp [unesc]
  | 0, b :: c :: r, h => by simp at h
  | n + 1, b :: c :: r, h => by
    rw [unesc]
    simp at h
    split
    · have := unesc_len n r (by omega)
      simp; omega
    · have := unesc_len n (c :: r) (by simp; omega)
      simp at this ⊢; omega
/-- It stands between two quotes. -/
def quotedL (t : List UInt8) : Bool := decide (2 ≤ t.length) && (t.getD 0 0 == 34) && (t.getD (t.length - 1) 0 == 34)
def unqT (t : List UInt8) : List UInt8 := if quotedL t then unesc ((t.drop 1).take (t.length - 2)) else t
def unqL (l : List UInt8) : List UInt8 := unqT (Lib.trimS l [32, 9])
theorem trimR_len (l cs : List UInt8) : (Lib.trimRightS l cs).length ≤ l.length := by
  unfold Lib.trimRightS
  rw [List.length_reverse]
  exact Nat.le_trans (List.dropWhile_suffix _).length_le (by rw [List.length_reverse]; exact Nat.le_refl _)
theorem trimLen (l cs : List UInt8) : (Lib.trimS l cs).length ≤ l.length := by
  unfold Lib.trimS Lib.trimLeftS
  exact Nat.le_trans (List.dropWhile_suffix _).length_le (trimR_len l cs)
theorem unqL_len (l : List UInt8) : (unqL l).length ≤ l.length := by
  unfold unqL unqT
  have := trimLen l [32, 9]
  split
  · have h := unesc_len _ (((Lib.trimS l [32, 9]).drop 1).take ((Lib.trimS l [32, 9]).length - 2)) (Nat.le_refl _)
    rw [List.length_take, List.length_drop] at h
    omega
  · exact this

theorem unesc_escs : ∀ (s : List UInt8), unesc (s.flatMap escB) = s
  | [] => rfl
  | b :: r => by
    rw [List.flatMap_cons]
    unfold escB
    split
    · have := unesc_escs r
      rw [List.cons_append, List.cons_append, unesc, if_pos rfl, List.nil_append]
      unfold escB at this
      rw [this]
    · rename_i h
      rw [List.cons_append, List.nil_append, unesc_cons b _ (fun h2 => h (.inr h2))]
      have := unesc_escs r
      unfold escB at this
      rw [this]
theorem quote_split (s : List UInt8) : quoteL s = 34 :: s.flatMap escB ++ [34] := rfl
theorem trim_fix (l : List UInt8) (h1 : ∀ b, l.head? = some b → blankB b = false) (h2 : ∀ b, l.getLast? = some b → blankB b = false) : Lib.trimS l [32, 9] = l := by
  have e : Lib.trimRightS l [32, 9] = l := by
    unfold Lib.trimRightS
    rw [dw_fix _ _ (fun b hb => ?_), List.reverse_reverse]
    rw [List.head?_reverse] at hb
    exact h2 b hb
  unfold Lib.trimS
  rw [e]
  exact dw_fix _ _ h1
theorem trim_quote (s : List UInt8) : Lib.trimS (quoteL s) [32, 9] = quoteL s :=
  trim_fix _ (fun b hb => by
    have : b = 34 := (Option.some.inj (by simpa [quoteL] using hb)).symm
    subst this; rfl) (fun b hb => by
    have : b = 34 := by
      unfold quoteL at hb
      rw [List.getLast?_append] at hb
      exact (Option.some.inj (by simpa using hb)).symm
    subst this; rfl)
theorem unqL_quote (s : List UInt8) : unqL (quoteL s) = s := by
  unfold unqL
  rw [trim_quote]
  have hl : (quoteL s).length = (s.flatMap escB).length + 2 := by simp [quoteL]
  have hq : quotedL (quoteL s) = true := by
    unfold quotedL
    rw [hl]
    have e1 : (quoteL s).getD 0 0 = 34 := rfl
    have e2 : (quoteL s).getD ((s.flatMap escB).length + 2 - 1) 0 = 34 := by
      rw [List.getD_eq_getElem?_getD]
      unfold quoteL
      rw [show (s.flatMap escB).length + 2 - 1 = (34 :: s.flatMap escB).length by simp, List.getElem?_append_right (Nat.le_refl _)]
      simp
    rw [e1, e2]
    simp
  unfold unqT
  rw [if_pos hq, hl]
  have e3 : ((quoteL s).drop 1).take ((s.flatMap escB).length + 2 - 2) = s.flatMap escB := by
    unfold quoteL
    rw [List.cons_append, List.drop_one, List.tail_cons, show (s.flatMap escB).length + 2 - 2 = (s.flatMap escB).length by omega, List.take_left]
  rw [e3, unesc_escs]

/-- Within quotes behind byte b. -/
def nextQ (q e : Bool) (b : UInt8) : Bool := if b = 34 ∧ e = false then !q else q
/-- A backslash that counts. -/
def nextE (e : Bool) (b : UInt8) : Bool := (b == 92) && !e
/-- The stretches between commas, the first one begun. -/
def comR (q e : Bool) (cur : List UInt8) : List UInt8 → List (List UInt8)
  | [] => [cur]
  | b :: r => if b = 44 ∧ nextQ q e b = false then cur :: comR (nextQ q e b) (nextE e b) [] r else comR (nextQ q e b) (nextE e b) (cur ++ [b]) r
def keepT (l : List (List UInt8)) : List (List UInt8) := (l.map (fun x => Lib.trimS x [32, 9])).filter fun x => !x.isEmpty
def comL (s : List UInt8) : List (List UInt8) := keepT (comR false false [] s)
/-- .. of a text from index i on, its stretch from index j on. -/
def comAt (l : List UInt8) (q e : Bool) (j i : Nat) : List (List UInt8) := comR q e ((l.drop j).take (i - j)) (l.drop i)
theorem comAt_zero (l : List UInt8) : keepT (comAt l false false 0 0) = comL l := by simp [comAt, comL]
theorem comAt_end (l : List UInt8) (q e : Bool) (j : Nat) : comAt l q e j l.length = [l.drop j] := by
  unfold comAt
  rw [List.drop_length, comR, List.take_of_length_le (by simp)]
theorem comAt_sep (l : List UInt8) (q e : Bool) (j i : Nat) (b : UInt8) (hi : l[i]? = some b) (h : b = 44 ∧ nextQ q e b = false) :
    comAt l q e j i = (l.drop j).take (i - j) :: comAt l (nextQ q e b) (nextE e b) (i + 1) (i + 1) := by
  have hlt : i < l.length := (List.getElem?_eq_some_iff.1 hi).1
  unfold comAt
  rw [List.drop_eq_getElem_cons hlt]
  rw [List.getElem?_eq_getElem hlt] at hi
  rw [Option.some.inj hi, comR, if_pos h]
  simp
theorem comAt_next (l : List UInt8) (q e : Bool) (j i : Nat) (b : UInt8) (hji : j ≤ i) (hi : l[i]? = some b) (h : ¬ (b = 44 ∧ nextQ q e b = false)) :
    comAt l q e j i = comAt l (nextQ q e b) (nextE e b) j (i + 1) := by
  have hlt : i < l.length := (List.getElem?_eq_some_iff.1 hi).1
  unfold comAt
  rw [List.drop_eq_getElem_cons hlt]
  have e3 : (l.drop j).take (i + 1 - j) = (l.drop j).take (i - j) ++ [b] := by
    rw [show i + 1 - j = i - j + 1 by omega, List.take_add_one, List.getElem?_drop, show j + (i - j) = i by omega, hi]
    rfl
  rw [List.getElem?_eq_getElem hlt] at hi
  rw [Option.some.inj hi, comR, if_neg h, e3]
theorem keepT_cons (x : List UInt8) (r : List (List UInt8)) : keepT (x :: r) = (if Lib.trimS x [32, 9] = [] then [] else [Lib.trimS x [32, 9]]) ++ keepT r := by
  unfold keepT
  rw [List.map_cons, List.filter_cons]
  cases h : Lib.trimS x [32, 9] with
  | nil => simp
  | cons a t => simp
theorem keepT_nil : keepT [] = [] := rfl

/-- Parts are no more than the text. -/
theorem comR_total : ∀ (l : List UInt8) (q e : Bool) (cur : List UInt8), total (comR q e cur l) ≤ cur.length + l.length ∧ (comR q e cur l).length ≤ l.length + 1
  | [], q, e, cur => by simp [comR, total]
  | b :: r, q, e, cur => by
    rw [comR]
    split
    · have := comR_total r (nextQ q e b) (nextE e b) []
      rw [total_cons]
      simp at this ⊢
      omega
    · have := comR_total r (nextQ q e b) (nextE e b) (cur ++ [b])
      simp at this ⊢
      omega
theorem keepT_total : ∀ (l : List (List UInt8)), total (keepT l) ≤ total l ∧ (keepT l).length ≤ l.length
  | [] => by simp [keepT, total]
  | x :: r => by
    have := keepT_total r
    have h := trimLen x [32, 9]
    rw [keepT_cons, total_append, total_cons]
    split
    · simp [total] at this ⊢
      omega
    · simp [total] at this ⊢
      omega
theorem comL_total (l : List UInt8) : total (comL l) ≤ l.length ∧ (comL l).length ≤ l.length + 1 := by
  have h1 := comR_total l false false []
  have h2 := keepT_total (comR false false [] l)
  unfold comL
  simp at h1
  omega

/-- Each part is trimmed, isn't empty, and stands in the text. -/
theorem comR_infix : ∀ (l : List UInt8) (q e : Bool) (cur x : List UInt8), x ∈ comR q e cur l → ∃ a b, cur ++ l = a ++ x ++ b
  | [], q, e, cur, x, h => by
    simp [comR] at h
    exact ⟨[], [], by simp [h]⟩
  | b :: r, q, e, cur, x, h => by
    rw [comR] at h
    split at h
    · rcases List.mem_cons.1 h with rfl | h
      · exact ⟨[], b :: r, by simp⟩
      · obtain ⟨a, c, hx⟩ := comR_infix r _ _ [] x h
        rw [List.nil_append] at hx
        exact ⟨cur ++ b :: a, c, by rw [hx]; simp⟩
    · obtain ⟨a, c, hx⟩ := comR_infix r _ _ _ x h
      exact ⟨a, c, by rw [← hx]; simp⟩
theorem trim_infix (l : List UInt8) : ∃ a b, l = a ++ Lib.trimS l [32, 9] ++ b := by
  unfold Lib.trimS Lib.trimLeftS Lib.trimRightS
  obtain ⟨b, hb⟩ := List.dropWhile_suffix (l := l.reverse) (([32, 9] : List UInt8).contains ·)
  have e1 : l = (l.reverse.dropWhile (([32, 9] : List UInt8).contains ·)).reverse ++ b.reverse := by
    rw [← List.reverse_append, hb, List.reverse_reverse]
  obtain ⟨a, ha⟩ := List.dropWhile_suffix (l := (l.reverse.dropWhile (([32, 9] : List UInt8).contains ·)).reverse) (([32, 9] : List UInt8).contains ·)
  exact ⟨a, b.reverse, by rw [ha]; exact e1⟩
theorem comL_mem {l x : List UInt8} (h : x ∈ comL l) : x ≠ [] ∧ Lib.trimS x [32, 9] = x ∧ ∃ a b, l = a ++ x ++ b := by
  unfold comL keepT at h
  rw [List.mem_filter, List.mem_map] at h
  obtain ⟨⟨y, hy, rfl⟩, hne⟩ := h
  refine ⟨fun h => by simp [h] at hne, trim_twice _ _, ?_⟩
  obtain ⟨a, b, h1⟩ := comR_infix _ _ _ _ _ hy
  obtain ⟨c, d, h2⟩ := trim_infix y
  rw [List.nil_append] at h1
  exact ⟨a ++ c, d ++ b, by rw [h1]; conv => lhs; rw [h2]
                            simp⟩

/-- A blank ahead makes no difference. -/
theorem trim_blank (x : List UInt8) : Lib.trimS (32 :: x) [32, 9] = Lib.trimS x [32, 9] := by
  unfold Lib.trimS Lib.trimLeftS Lib.trimRightS
  rw [List.reverse_cons, List.dropWhile_append]
  cases hd : x.reverse.dropWhile (([32, 9] : List UInt8).contains ·) with
  | nil => rfl
  | cons a t =>
    simp only [List.isEmpty_cons, Bool.false_eq_true, if_false]
    rw [List.reverse_append, List.reverse_singleton, List.singleton_append, List.dropWhile_cons]
    rfl
theorem keepT_blank : ∀ (l : List UInt8) (q e : Bool) (cur : List UInt8), keepT (comR q e (32 :: cur) l) = keepT (comR q e cur l)
  | [], q, e, cur => by rw [comR, comR, keepT_cons, keepT_cons, trim_blank]
  | b :: r, q, e, cur => by
    rw [comR, comR]
    split
    · rw [keepT_cons, keepT_cons, trim_blank]
    · rw [List.cons_append, keepT_blank r]

/-- Behind quotes, whatever stands in them, a comma separates. -/
theorem comR_escs : ∀ (s cur r : List UInt8), comR true false cur (s.flatMap escB ++ r) = comR true false (cur ++ s.flatMap escB) r
  | [], cur, r => by simp
  | b :: s, cur, r => by
    rw [List.flatMap_cons]
    unfold escB
    split
    · rename_i h
      rw [List.append_assoc, List.cons_append, List.cons_append, List.nil_append, comR, if_neg (by simp)]
      have e1 : nextQ true false 92 = true := rfl
      have e2 : nextE false 92 = true := rfl
      rw [e1, e2, comR]
      have e3 : nextQ true true b = true := by unfold nextQ; rw [if_neg (by simp)]
      have e4 : nextE true b = false := by unfold nextE; simp
      rw [e3, e4, if_neg (by simp)]
      have := comR_escs s (cur ++ [92] ++ [b]) r
      unfold escB at this
      rw [this]
      simp
    · rename_i h
      have h1 : b ≠ 34 := fun h2 => h (.inl h2)
      have h2 : b ≠ 92 := fun h2 => h (.inr h2)
      rw [List.append_assoc, List.cons_append, List.nil_append, comR]
      have e3 : nextQ true false b = true := by unfold nextQ; rw [if_neg (by simp [h1])]
      have e4 : nextE false b = false := by unfold nextE; simp [h2]
      rw [e3, e4, if_neg (by simp)]
      have := comR_escs s (cur ++ [b]) r
      unfold escB at this
      rw [this]
      simp
theorem comL_quote (s : List UInt8) : comL (quoteL s ++ [44]) = [quoteL s] := by
  unfold comL
  have e : comR false false [] (quoteL s ++ [44]) = [quoteL s, []] := by
    rw [quote_split, List.append_assoc, List.cons_append, comR, if_neg (by simp)]
    have e1 : nextQ false false 34 = true := rfl
    have e2 : nextE false 34 = false := rfl
    rw [e1, e2, comR_escs, List.singleton_append, comR, if_neg (by simp)]
    have e3 : nextQ true false 34 = false := rfl
    rw [e3, e2, comR, if_pos ⟨rfl, rfl⟩, comR]
    simp
  rw [e, keepT_cons, keepT_cons, keepT_nil, trim_quote, if_neg (by simp [quoteL])]
  rfl
end Go.Proofs.YtjleadlecdcdeaaDoor

/-
  A text split at a byte: plain.
-/
namespace Go.Proofs.YtjleadlecdcdeaaDoor
set_option linter.unusedVariables false
open Go.RowKit

def occB (s : ByteArray) (b : UInt8) (k : Nat) : Bool := s.data.toList[k]? == some b
/-- What has been gathered ahead of k, and where the next part begins. -/
def spF (s : ByteArray) (b : UInt8) : Nat → List ByteArray × Nat
  | 0 => ([], 0)
  | k + 1 => if occB s b k then ((spF s b k).1 ++ [s.extract (spF s b k).2 k], k + 1) else spF s b k
def splitAll (s : ByteArray) (b : UInt8) : List ByteArray := (spF s b s.size).1 ++ [s.extract (spF s b s.size).2 s.size]
theorem spF_yes {s : ByteArray} {b : UInt8} {k : Nat} (h : occB s b k = true) : spF s b (k + 1) = ((spF s b k).1 ++ [s.extract (spF s b k).2 k], k + 1) := by simp [spF, h]
theorem spF_no {s : ByteArray} {b : UInt8} {k : Nat} (h : occB s b k = false) : spF s b (k + 1) = spF s b k := by simp [spF, h]
theorem spF_le (s : ByteArray) (b : UInt8) : ∀ k, (spF s b k).2 ≤ k ∧ (spF s b k).1.length ≤ k := by
  intro k
  induction k with
  | zero => simp [spF]
  | succ k ih =>
    cases h : occB s b k
    · rw [spF_no h]; omega
    · rw [spF_yes h]; simp; omega
def one (b : UInt8) : ByteArray := ⟨#[b]⟩
theorem occAt_one (l : List UInt8) (b : UInt8) (k : Nat) : Lib.occAt l (one b).data.toList k = (l[k]? == some b) := by
  unfold Lib.occAt one
  rw [Bool.eq_iff_iff, List.isPrefixOf_iff_prefix, beq_iff_eq]
  constructor
  · rintro ⟨t, ht⟩
    have h0 : (l.drop k)[0]? = some b := by rw [← ht]; rfl
    rw [List.getElem?_drop] at h0
    exact h0
  · intro h0
    refine ⟨l.drop (k + 1), ?_⟩
    obtain ⟨a, ha⟩ := List.getElem?_eq_some_iff.1 h0
    rw [List.drop_eq_getElem_cons a, ha]
    rfl
theorem pre_small (s : ByteArray) (b : UInt8) : ∀ k, ∀ y ∈ (spF s b k).1, y.size ≤ s.size := by
  intro k
  induction k with
  | zero => intro y hy; cases hy
  | succ k ih =>
    cases h : occB s b k
    · rw [spF_no h]; exact ih
    · rw [spF_yes h]
      intro y hy
      rcases List.mem_append.1 hy with hy | hy
      · exact ih y hy
      · rw [List.mem_singleton.1 hy]; simp; omega
theorem split_small (s : ByteArray) (b : UInt8) : ∀ y ∈ splitAll s b, y.size ≤ s.size := by
  intro y hy
  unfold splitAll at hy
  rcases List.mem_append.1 hy with hy | hy
  · exact pre_small s b _ y hy
  · rw [List.mem_singleton.1 hy]; simp
theorem split_len (s : ByteArray) (b : UInt8) : (splitAll s b).length ≤ s.size + 1 ∧ splitAll s b ≠ [] := by
  unfold splitAll
  have := (spF_le s b s.size).2
  exact ⟨by simp; omega, by simp⟩
end Go.Proofs.YtjleadlecdcdeaaDoor

/-
  The walk of spec.l01In.
-/
namespace Go.Proofs.YtjleadlecdcdeaaDoor
set_option linter.unusedVariables false
open Go.RowKit

set_option maxHeartbeats 400000 in
theorem in_yes (x a b : Int) (w : World) (h1 : a ≤ x) (h2 : x ≤ b) :
    Calls Tryd.prog 43 #[.int .i64 x, .int .i64 a, .int .i64 b] w fun e w' => e = .returned (.bool true) ∧ w' = w := by
  go_enter Tryd.func43, Tryd.ntmps43
  go_wp2
  go_ret
  exact ⟨rfl, rfl⟩
set_option maxHeartbeats 400000 in
theorem in_no (x a b : Int) (w : World) (h : x < a ∨ b < x) :
    Calls Tryd.prog 43 #[.int .i64 x, .int .i64 a, .int .i64 b] w fun e w' => e = .returned (.bool false) ∧ w' = w := by
  by_cases h1 : a ≤ x
  · have h2 : b < x := by omega
    have h3 : decide (x ≤ b) = false := by simp; omega
    go_enter Tryd.func43, Tryd.ntmps43
    go_wp2
    go_ret
    exact ⟨rfl, rfl⟩
  · have h2 : x < a := by omega
    clear h
    go_enter Tryd.func43, Tryd.ntmps43
    go_wp2
    go_ret
    exact ⟨rfl, rfl⟩
end Go.Proofs.YtjleadlecdcdeaaDoor

/-
  The walks of impl.Upper, spec.Upper, and of Same: plain lists of bytes.
-/
namespace Go.Proofs.YtjleadlecdcdeaaDoor
set_option linter.unusedVariables false
open Go.RowKit

def upN (n : Nat) : Nat := if 97 ≤ n ∧ n ≤ 122 then n - 32 else n
def tabUpTo (k : Nat) : Array Value := Array.ofFn (n := 256) fun i => if i.val < k then .int .u8 i.val else .int .u8 0
def tabUp2 (k : Nat) : Array Value := Array.ofFn (n := 256) fun i => if 97 ≤ i.val ∧ i.val < k then .int .u8 (i.val - 32 : Nat) else .int .u8 i.val
theorem tabUpTo_size (k : Nat) : (tabUpTo k).size = 256 := by simp [tabUpTo]
theorem tabUp2_size (k : Nat) : (tabUp2 k).size = 256 := by simp [tabUp2]
theorem tabUpTo_get (k i : Nat) : (tabUpTo k)[i]? = if i < 256 then some (if i < k then .int .u8 i else .int .u8 0) else none := by
  simp [tabUpTo, Array.getElem?_ofFn]
theorem tabUp2_get (k i : Nat) : (tabUp2 k)[i]? = if i < 256 then some (if 97 ≤ i ∧ i < k then .int .u8 (i - 32 : Nat) else .int .u8 i) else none := by
  simp [tabUp2, Array.getElem?_ofFn]
theorem tabUpTo_set (k : Nat) (hk : k < 256) : (tabUpTo k).setIfInBounds k (.int .u8 k) = tabUpTo (k + 1) := by
  apply Array.ext_getElem?
  intro i
  rw [Array.getElem?_setIfInBounds, tabUpTo_get, tabUpTo_get, tabUpTo_size]
  by_cases e : k = i
  · subst e; simp [hk]
  · simp only [if_neg e]
    have : (i < k + 1) ↔ i < k := by omega
    simp only [this]
theorem tabUp2_set (k : Nat) (h97 : 97 ≤ k) (hk : k < 256) : (tabUp2 k).setIfInBounds k (.int .u8 (k - 32 : Nat)) = tabUp2 (k + 1) := by
  apply Array.ext_getElem?
  intro i
  rw [Array.getElem?_setIfInBounds, tabUp2_get, tabUp2_get, tabUp2_size]
  by_cases e : k = i
  · subst e; simp [hk, h97]
  · simp only [if_neg e]
    have : (97 ≤ i ∧ i < k + 1) ↔ (97 ≤ i ∧ i < k) := by omega
    simp only [this]
theorem tabUpTo_end : tabUpTo 256 = tabUp2 97 := by
  apply Array.ext_getElem?
  intro i
  rw [tabUpTo_get, tabUp2_get]
  by_cases h : i < 256
  · rw [if_pos h, if_pos h, if_pos h, if_neg (by omega)]
  · rw [if_neg h, if_neg h]
theorem tabUp2_one (k : Nat) : (tabUp2 k).all (·.oneCell') = true := by
  rw [Array.all_eq_true]
  intro i hi
  simp only [tabUp2, Array.getElem_ofFn]
  split <;> rfl
theorem belowRow {B : Nat} {a w : World} (h : Below B a w) {g : Nat} (hg : B ≤ g) (cs : Array Value) : Below B a (w.setRow g cs) :=
  h.trans ⟨rfl, rfl, rfl, by simp [World.setRow], fun k hk => by
    simp only [World.setRow, Array.getElem?_modify]
    rw [if_neg (by omega)]⟩
def z256 : Array Value := Array.replicate 256 (.int .u8 0)
theorem z256_eq : z256 = tabUpTo 0 := by
  apply Array.ext_getElem?
  intro i
  rw [tabUpTo_get]
  simp [z256, Array.getElem?_replicate]

theorem info256 : (Tryd.prog.info? 51).map (fun i => (i.zero, i.size)) = some (some (.agg z256), 256) := by kernel_rfl

set_option maxRecDepth 100000 in
set_option maxHeartbeats 400000 in
theorem upperTable_any (w : World) :
    Calls Tryd.prog 32 #[] w fun e w' => e = .returned (.agg (tabUp2 123)) ∧ Below w.heap.size w w' := by
  obtain ⟨hz, hs⟩ := zero_of_info info256
  rw [z256_eq] at hz
  obtain ⟨C0, HC0⟩ : ∃ C, Hid (C = tabUpTo 0) := ⟨_, Lib.hid rfl⟩
  rw [← HC0.out] at hz
  go_enter Tryd.func32, Tryd.ntmps32
  go_wp2
  go_loopw [4] (fun i wr => ∃ (k : Nat) (C : Array Value), k ≤ 256 ∧ i = .int .i64 k ∧ wr = (w.alloc (Obj.cells C0 51)).alloc (Obj.cells C 51) ∧ Hid (C = tabUpTo k)) (fun i _ => 256 - (intOf i).toNat)
  case atStart => exact ⟨0, C0, Nat.zero_le _, rfl, rfl, HC0⟩
  case round =>
    obtain ⟨k, C, hk, rfl, rfl, HC⟩ := hrel
    by_cases hlt : k < 256
    · have hget : C[k]? = some (.int .u8 0) := by rw [HC.out, tabUpTo_get, if_pos hlt, if_neg (by omega)]
      go_wp2
      go_roundw
      case rel => exact ⟨k + 1, _, by omega, by go_num, rfl, Lib.hid (by rw [← tabUpTo_set k hlt, HC.out])⟩
      case measure => simp [intOf]; omega
    · obtain rfl : k = 256 := by omega
      go_wp2
      clear hlt
      go_loopw [3] (fun i wr => ∃ (c : Nat) (D : Array Value), 97 ≤ c ∧ c ≤ 123 ∧ i = .int .i32 c ∧ wr = (w.alloc (Obj.cells C0 51)).alloc (Obj.cells D 51) ∧ Hid (D = tabUp2 c)) (fun i _ => 123 - (intOf i).toNat)
      case atStart => exact ⟨97, C, by omega, by omega, rfl, rfl, Lib.hid (by rw [HC.out, tabUpTo_end])⟩
      case round =>
        obtain ⟨c, D, h97, hc, rfl, rfl, HD⟩ := hrel
        by_cases hlt : c ≤ 122
        · have hget : D[c]? = some (.int .u8 c) := by rw [HD.out, tabUp2_get, if_pos (by omega), if_neg (by omega)]
          go_wp2
          go_roundw
          case rel => exact ⟨c + 1, _, by omega, by omega, by go_num, rfl, Lib.hid (by rw [← tabUp2_set c h97 (by omega), HD.out]; congr 2; omega)⟩
          case measure => simp [intOf]; omega
        · obtain rfl : c = 123 := by omega
          have hg1 : ((w.alloc (Obj.cells C0 51)).alloc (Obj.cells D 51)).heap[w.heap.size + 1]? = some (.cells D 51 (0, 0)) := heap_alloc2_new _ _ _
          have hg0 : ((w.alloc (Obj.cells C0 51)).alloc (Obj.cells D 51)).heap[w.heap.size]? = some (.cells C0 51 (0, 0)) := heap_alloc2_old _ _ _
          have hD : D.size = 256 := by rw [HD.out, tabUp2_size]
          have hC : C0.size = 256 := by rw [HC0.out, tabUpTo_size]
          have hall : D.all (·.oneCell') = true := by rw [HD.out]; exact tabUp2_one _
          have Hs : (Tryd.prog.info? 51).map (·.size) = some D.size := by rw [hs, hD]
          have Hcs : C0.size = D.size := by rw [hC, hD]
          have HG1 := Lib.hid hg1
          have HG0 := Lib.hid hg0
          have HS := Lib.hid Hs
          have HCS := Lib.hid Hcs
          have HALL := Lib.hid hall
          clear hg1 hg0 hD hC hall Hs Hcs
          go_wp2_with (first | (refine wpList_load_row rfl 51 _ rfl (w.heap.size + 1) rfl 51 D (0, 0) _ HG1.out Tryd.underlying51 rfl HS.out ?_) | (refine wpList_store_row rfl 51 _ _ rfl w.heap.size D rfl rfl 51 C0 HG0.out HS.out HCS.out HALL.out ?_))
          refine bodyPost_ret_by (results_cell_row rfl _ _ w.heap.size 51 D (0, 0) _ rfl (setRow_heap _ _ _ _ _ _ HG0.out) Tryd.underlying51 rfl HS.out) rfl ⟨by rw [HD.out], ?_⟩
          exact belowRow (((Below.refl _ _).alloc (Nat.le_refl _) _).alloc (by simp) _) (Nat.le_refl _) _

def upB (b : UInt8) : UInt8 := if 97 ≤ b.toNat ∧ b.toNat ≤ 122 then b - 32 else b
def upS (l : List UInt8) : List UInt8 := l.map upB
def mixUp (l : List UInt8) (k : Nat) : List UInt8 := (l.take k).map upB ++ l.drop k
theorem mixUp_len (l : List UInt8) (k : Nat) : (mixUp l k).length = l.length := by
  simp [mixUp]; omega
theorem mixUp_zero (l : List UInt8) : mixUp l 0 = l := by simp [mixUp]
theorem mixUp_all (l : List UInt8) (k : Nat) (h : l.length ≤ k) : mixUp l k = upS l := by
  simp [mixUp, upS, List.take_of_length_le h, List.drop_eq_nil_of_le h]
theorem mixUp_at (l : List UInt8) (k : Nat) (h : k < l.length) : (mixUp l k).getD k 0 = l.getD k 0 := by
  simp [mixUp, List.getD, List.getElem?_append, show min k l.length = k by omega]
theorem mixUp_set (l : List UInt8) (k : Nat) (h : k < l.length) : (mixUp l k).set k (upB (l.getD k 0)) = mixUp l (k + 1) := by
  apply List.ext_getElem?
  intro i
  simp only [mixUp, List.getElem?_set, List.getElem?_append, List.length_map, List.length_take, List.getElem?_map, List.getElem?_take, List.getElem?_drop, List.length_append, List.length_drop, List.getD]
  rw [show min k l.length = k by omega, show min (k + 1) l.length = k + 1 by omega]
  by_cases e : k = i
  · subst e
    rw [if_pos rfl, if_pos (by omega), if_pos (by omega), if_pos (by omega), List.getElem?_eq_getElem h]
    rfl
  · rw [if_neg e]
    by_cases h1 : i < k
    · rw [if_pos h1, if_pos h1, if_pos (by omega), if_pos (by omega)]
    · rw [if_neg h1, if_neg (by omega)]
      congr 1
      omega
theorem mixUp_keep (l : List UInt8) (k : Nat) (h : k < l.length) (hb : upB (l.getD k 0) = l.getD k 0) : mixUp l k = mixUp l (k + 1) := by
  rw [← mixUp_set l k h, hb, ← mixUp_at l k h]
  apply List.ext_getElem?
  intro i
  rw [List.getElem?_set]
  by_cases e : k = i
  · subst e
    have := mixUp_len l k
    rw [if_pos rfl, if_pos (by omega), List.getD, List.getElem?_eq_getElem (by omega)]
    rfl
  · rw [if_neg e]
theorem upB_nat (b : UInt8) : (upB b).toNat = if 97 ≤ b.toNat ∧ b.toNat ≤ 122 then b.toNat - 32 else b.toNat := by
  unfold upB
  split
  · rename_i h
    rw [UInt8.toNat_sub_of_le _ _ (by rw [UInt8.le_iff_toNat_le]; simp; omega)]
    rfl
  · rfl

set_option maxRecDepth 100000 in
set_option maxHeartbeats 400000 in
theorem specUpper_any (s : ByteArray) (w : World) (hs : s.size ≤ maxLen) :
    Calls Tryd.prog 27 #[.string s] w fun e w' => e = .returned (.string ⟨(upS s.data.toList).toArray⟩) ∧ Below w.heap.size w w' := by
  unfold maxLen at hs
  obtain ⟨W, cap, hconv, hbuf, hbel, hsz⟩ := conv_bytes (P := Tryd.prog) w 9 22 5 s Tryd.underlying9 Tryd.underlying22 Tryd.underlying5
  have HS := Lib.hid hsz
  clear hsz
  go_enter Tryd.func27, Tryd.ntmps27
  go_wp2
  go_loopw [4] (fun i wr => ∃ k : Nat, k ≤ s.size ∧ i = .int .i64 k ∧ Buf wr w.heap.size 5 (mixUp s.data.toList k) ∧ Below w.heap.size w wr) (fun i _ => s.size - (intOf i).toNat)
  case atStart => exact ⟨0, Nat.zero_le _, rfl, by rw [mixUp_zero]; exact hbuf, hbel⟩
  case round =>
    obtain ⟨k, hk, rfl, hb, hB⟩ := hrel
    have hlen : (mixUp s.data.toList k).length = s.size := by rw [mixUp_len]; simp
    by_cases hlt : k < s.size
    · have hc := hb.cell k (by omega)
      have hf := hb.free k (by omega)
      have hl : k < s.data.toList.length := by simpa using hlt
      rw [mixUp_at _ _ hl] at hc
      generalize hx : s.data.toList.getD k 0 = x at hc
      have hset := mixUp_set s.data.toList k hl
      have hkeep := mixUp_keep s.data.toList k hl
      rw [hx] at hset hkeep
      unfold bv at hc
      have hx1 : (x.toNat : Int) < 256 := by have := x.toNat_lt; omega
      have hst := hb.store k (by omega)
      have HST := Lib.hid hst
      have HSET := Lib.hid hset
      have HKEEP := Lib.hid hkeep
      have HX := Lib.hid hx
      have HLEN := Lib.hid hlen
      clear hst hset hkeep hx hlen
      by_cases hup : 97 ≤ x.toNat ∧ x.toNat ≤ 122
      · obtain ⟨hu1, hu2⟩ := hup
        go_wp2_with (go_at_call 43; refine (in_yes _ _ _ _ (by omega) (by omega)).mono ?_; rintro e w' ⟨rfl, rfl⟩)
        go_roundw
        case rel =>
          refine ⟨k + 1, by omega, by go_num, ?_, hB.setCell (p := ⟨w.heap.size, k, none⟩) (Nat.le_refl _) _⟩
          have h3 := HST.out (upB x)
          rw [HSET.out] at h3
          have h4 : bv (upB x) = .int .u8 ((x.toNat : Int) - 32) := by
            unfold bv; rw [upB_nat, if_pos ⟨hu1, hu2⟩]; congr 1; omega
          rw [h4] at h3
          exact h3
        case measure => simp [intOf]; omega
      · have Hup := Lib.hid hup
        have hno : (x.toNat : Int) < 97 ∨ 122 < (x.toNat : Int) := by omega
        have Hno := Lib.hid hno
        clear hup hno
        go_wp2_with (go_at_call 43; refine (in_no _ _ _ _ Hno.out).mono ?_; rintro e w' ⟨rfl, rfl⟩)
        go_roundw
        case rel =>
          refine ⟨k + 1, by omega, by go_num, ?_, hB⟩
          rw [← HKEEP.out (by unfold upB; rw [if_neg Hup.out])]
          exact hb
        case measure => simp [intOf]; omega
    · rw [mixUp_all _ _ (by simp; omega)] at hb
      have hback := hb.back (P := Tryd.prog) 22 9 5 cap s.size (by simp [upS]) Tryd.underlying22 Tryd.underlying5 Tryd.underlying9
      have HLEN := Lib.hid hlen
      clear hlen
      go_wp2
      go_ret
      exact ⟨rfl, hB⟩
end Go.Proofs.YtjleadlecdcdeaaDoor

/-
  Kinds: plain.
-/
namespace Go.Proofs.YtjleadlecdcdeaaDoor
set_option linter.unusedVariables false
open Go.RowKit

def specials2 : List UInt8 := [40, 41, 60, 62, 64, 44, 59, 58, 47, 91, 93, 63, 61, 34, 92]
/-- A byte of a token. -/
def tokB (b : UInt8) : Bool := decide (33 ≤ b.toNat ∧ b.toNat ≤ 126) && !hasL b specials2
def tokL (l : List UInt8) : Bool := l.all tokB && !l.isEmpty
/-- What stands ahead of a byte, and behind, both trimmed. -/
def cutT (b : UInt8) (s : List UInt8) : List UInt8 × List UInt8 × Bool := (Lib.trimS (Lib.cut s [b]).1 [32, 9], Lib.trimS (Lib.cut s [b]).2.1 [32, 9], (Lib.cut s [b]).2.2)
/-- The value of a parameter. -/
def valOf (v : List UInt8) : Option (List UInt8) :=
  if tokL v then some v else if quotedL v = true ∧ hasL 34 ((v.drop 1).take (v.length - 2)) = false then some (unqL v) else none
def paramOf (s : List UInt8) : Option Pr :=
  if (cutT 61 s).2.2 = true ∧ tokL (cutT 61 s).1 = true then (valOf (cutT 61 s).2.1).map (fun v => ⟨upS (cutT 61 s).1, v⟩) else none
/-- The parameters that texts are, behind those of acc. -/
def paramsA (acc : List Pr) : List (List UInt8) → Option (List Pr)
  | [] => some acc
  | x :: r => if Lib.trimS x [32, 9] = [] then paramsA acc r else match paramOf x with
    | none => none
    | some p => paramsA (acc ++ [p]) r
def semis (s : List UInt8) : List (List UInt8) := (splitAll (mkB s) 59).map (fun b => b.data.toList)
def kindOf (s : List UInt8) : Option Kd :=
  match semis s with
  | [] => none
  | x :: r => if (cutT 47 x).2.2 = true ∧ tokL (cutT 47 x).1 = true ∧ tokL (cutT 47 x).2.1 = true then (paramsA [] r).map (fun l => ⟨upS (cutT 47 x).1, upS (cutT 47 x).2.1, l⟩) else none
end Go.Proofs.YtjleadlecdcdeaaDoor

/-
  A byte of a text.
-/
namespace Go.Proofs.YtjleadlecdcdeaaDoor
set_option linter.unusedVariables false
open Go.RowKit

theorem byte_at (s : ByteArray) (k : Nat) (h : k < s.size) : s.data.toList.getD k 0 = s[k] := by
  rw [List.getD_eq_getElem?_getD, List.getElem?_eq_getElem (by simpa using h)]
  rfl
end Go.Proofs.YtjleadlecdcdeaaDoor

/-
  Words: the walk of spec's l03Has.
-/
namespace Go.Proofs.YtjleadlecdcdeaaDoor
set_option linter.unusedVariables false
open Go.RowKit

theorem ne_byte {a b : UInt8} (h : a ≠ b) : ((a.toNat : Int) == (b.toNat : Int)) = false := by
  rw [beq_eq_false_iff_ne]
  intro e
  exact h (UInt8.toNat_inj.1 (by omega))

set_option maxHeartbeats 400000 in
theorem has_any (s : ByteArray) (b : UInt8) (w : World) (hs : s.size ≤ 1000000000) :
    Calls Tryd.prog 44 #[.string s, .int .u8 b.toNat] w fun e w' => e = .returned (.bool (hasL b s.data.toList)) ∧ w' = w := by
  generalize hH : hasL b s.data.toList = H
  have HH := Lib.hid hH
  clear hH
  go_enter Tryd.func44, Tryd.ntmps44
  go_wp2
  go_loopw [5] (fun i wr => ∃ k : Nat, k ≤ s.size ∧ i = .int .i64 (k : Int) ∧ Hid (hasL b (s.data.toList.take k) = false) ∧ wr = w) (fun i _ => s.size - (intOf i).toNat)
  case atStart => exact ⟨0, by omega, rfl, Lib.hid rfl, rfl⟩
  case round =>
    obtain ⟨k, hk, rfl, HN, rfl⟩ := hrel
    have hlen : s.data.toList.length = s.size := by simp
    by_cases hlt : k < s.size
    · by_cases he : s[k] = b
      · have t1 : ((s[k].toNat : Int) == (b.toNat : Int)) = true := by rw [he, beq_iff_eq]
        have HT : Hid (H = true) := Lib.hid (by rw [← HH.out]; exact has_true b _ k (by omega) (by rw [byte_at s k hlt, he]))
        clear he hlen
        go_wp2_with fail
        go_ret
        exact ⟨by rw [HT.out]; rfl, rfl⟩
      · have t1 := ne_byte he
        have HN2 : Hid (hasL b (s.data.toList.take (k + 1)) = false) := Lib.hid (by
          rw [hasL_take b _ k (by omega), HN.out, byte_at s k hlt]
          simpa using he)
        clear he hlen
        go_wp2_with fail
        go_roundw
        case rel => exact ⟨k + 1, by omega, by go_num, HN2, trivial⟩
        case measure => simp [intOf]; omega
    · have HF : Hid (H = false) := Lib.hid (by
        have := HN.out
        rw [List.take_of_length_le (by omega), HH.out] at this
        exact this)
      go_wp2_with fail
      go_ret
      exact ⟨by rw [HF.out]; rfl, rfl⟩
end Go.Proofs.YtjleadlecdcdeaaDoor

/-
  Kinds: the walks of spec's l07Token, l07Cut.
-/
namespace Go.Proofs.YtjleadlecdcdeaaDoor
set_option linter.unusedVariables false
open Go.RowKit

def specials2A : ByteArray := ⟨#[40, 41, 60, 62, 64, 44, 59, 58, 47, 91, 93, 63, 61, 34, 92]⟩
theorem tok_wrap (b : UInt8) : wrap64 (b.toNat : Int) = (b.toNat : Int) := by
  have := b.toNat_lt
  unfold wrap64
  omega
theorem tok_all (m : ByteArray) (k : Nat) (h : k < m.size) : (m.data.toList.take (k + 1)).all tokB = ((m.data.toList.take k).all tokB && tokB m[k]) := by
  rw [all_take tokB _ k (by simpa using h), byte_at m k h]
theorem tok_no (m : ByteArray) (k : Nat) (h : k < m.size) (hp : tokB m[k] = false) : tokL m.data.toList = false := by
  unfold tokL
  rw [all_false tokB _ k (by simpa using h) (by rw [byte_at m k h]; exact hp)]
  rfl

set_option maxRecDepth 100000 in
set_option maxHeartbeats 1000000 in
theorem token_any (s : ByteArray) (w : World) (hs : s.size ≤ 1048576) :
    Calls Tryd.prog 26 #[.string s] w fun e w' => e = .returned (.bool (tokL s.data.toList)) ∧ w' = w := by
  obtain ⟨R, hR⟩ : ∃ R, tokL s.data.toList = R := ⟨_, rfl⟩
  rw [hR]
  have HR := Lib.hid hR
  clear hR
  have HA := Lib.hid (fun (b : UInt8) w => has_any specials2A b w (by decide))
  go_enter Tryd.func26, Tryd.ntmps26
  go_wp2
  go_loop [3] (fun a => ∃ k : Nat, k ≤ s.size ∧ a = .int .i64 (k : Int) ∧ Hid ((s.data.toList.take k).all tokB = true)) (fun a => s.size - (intOf a).toNat)
  case atStart => exact ⟨0, Nat.zero_le _, rfl, Lib.hid (by simp)⟩
  case round =>
    obtain ⟨k, hk, rfl, HT⟩ := hrel
    by_cases hlt : k < s.size
    · have d1 : decide ((k : Int) < (s.size : Int)) = true := by simp; omega
      have k1 : (0 : Int) ≤ (k : Int) := by omega
      have k2 : (k : Int) < (s.size : Int) := by omega
      have wq : wrap64 (s[k].toNat : Int) = (s[k].toNat : Int) := tok_wrap _
      have HB := Lib.hid (fun w => HA.out s[k] w)
      rw [show specials2A.data.toList = specials2 from rfl] at HB
      by_cases hin : 33 ≤ s[k].toNat ∧ s[k].toNat ≤ 126
      · have INX := Lib.hid (fun w => in_yes (s[k].toNat : Int) 33 126 w (by omega) (by omega))
        cases hh : hasL s[k] specials2 with
        | true =>
          rw [hh] at HB
          have HF : Hid (R = false) := Lib.hid (by rw [← HR.out]; exact tok_no s k hlt (by unfold tokB; rw [hh]; simp))
          clear hh hin HT HR
          go_wp2_with (first | (go_at_call 43; refine (INX.out _).mono ?_; rintro e w' ⟨rfl, hw⟩; rw [hw]; clear hw w') | (go_at_call 44; refine (HB.out _).mono ?_; rintro e w' ⟨rfl, hw⟩; rw [hw]; clear hw w'))
          go_ret
          exact ⟨by rw [HF.out]; rfl, rfl⟩
        | false =>
          rw [hh] at HB
          have HN : Hid ((s.data.toList.take (k + 1)).all tokB = true) := Lib.hid (by rw [tok_all s k hlt, HT.out]; unfold tokB; rw [hh, decide_eq_true hin]; rfl)
          clear hh hin HT
          go_wp2_with (first | (go_at_call 43; refine (INX.out _).mono ?_; rintro e w' ⟨rfl, hw⟩; rw [hw]; clear hw w') | (go_at_call 44; refine (HB.out _).mono ?_; rintro e w' ⟨rfl, hw⟩; rw [hw]; clear hw w'))
          go_round
          case rel => exact ⟨k + 1, by omega, by go_num, HN⟩
          case measure => simp [intOf]; omega
      · have INX := Lib.hid (fun w => in_no (s[k].toNat : Int) 33 126 w (by omega))
        have HF : Hid (R = false) := Lib.hid (by rw [← HR.out]; exact tok_no s k hlt (by unfold tokB; rw [decide_eq_false hin]; rfl))
        clear hin HT HR
        go_wp2_with (go_at_call 43; refine (INX.out _).mono ?_; rintro e w' ⟨rfl, hw⟩; rw [hw]; clear hw w')
        go_ret
        exact ⟨by rw [HF.out]; rfl, rfl⟩
    · have d1 : decide ((k : Int) < (s.size : Int)) = false := by simp; omega
      have HE : Hid (R = !s.toList.isEmpty) := Lib.hid (by
        have h := HT.out
        rw [List.take_of_length_le (by simp; omega)] at h
        rw [← HR.out]
        unfold tokL
        rw [h, Lib.toList_data]
        rfl)
      clear HT HR
      go_wp2_with fail
      go_ret
      exact ⟨by rw [HE.out]; rfl, rfl⟩

/-- Where a byte stands first. -/
theorem cut_here (s : List UInt8) (b : UInt8) (k : Nat) (h : s[k]? = some b) (hn : ∀ j : Nat, j < k → s[j]? ≠ some b) : Lib.cut s [b] = (s.take k, s.drop (k + 1), true) := by
  have hlt := (List.getElem?_eq_some_iff.1 h).1
  have hi : Lib.index s [b] = (k : Int) := by
    refine Lib.index_first (by omega) ?_ (fun j hj => ?_)
    · rw [show ([b] : List UInt8) = (one b).data.toList from rfl, occAt_one, h]
      exact beq_self_eq_true _
    · rw [show ([b] : List UInt8) = (one b).data.toList from rfl, occAt_one]
      exact beq_eq_false_iff_ne.2 (hn j hj)
  unfold Lib.cut
  rw [hi, if_pos (by omega)]
  simp
theorem cut_not (s : List UInt8) (b : UInt8) (hn : ∀ j : Nat, s[j]? ≠ some b) : Lib.cut s [b] = (s, [], false) := by
  have hi : Lib.index s [b] = -1 := Lib.index_none (fun j _ => by
    rw [show ([b] : List UInt8) = (one b).data.toList from rfl, occAt_one]
    exact beq_eq_false_iff_ne.2 (hn j))
  unfold Lib.cut
  rw [hi, if_neg (by omega)]

set_option maxRecDepth 100000 in
set_option maxHeartbeats 1000000 in
theorem cut7_any (s : ByteArray) (b : UInt8) (w : World) (hs : s.size ≤ 1048576) :
    Calls Tryd.prog 25 #[.string s, .int .u8 (b.toNat : Int)] w fun e w' => e = .returned (.tuple #[.string (mkB (cutT b s.data.toList).1), .string (mkB (cutT b s.data.toList).2.1), .bool (cutT b s.data.toList).2.2]) ∧ Below w.heap.size w w' := by
  unfold cutT
  obtain ⟨R, hR⟩ : ∃ R, Lib.cut s.data.toList [b] = R := ⟨_, rfl⟩
  rw [hR]
  have HR := Lib.hid hR
  have hlen : s.data.toList.length = s.size := by simp
  have HLEN := Lib.hid hlen
  clear hR hlen
  obtain ⟨A, hA⟩ : ∃ A, mkB (Lib.trimS R.1 [32, 9]) = A := ⟨_, rfl⟩
  obtain ⟨B, hB⟩ : ∃ B, mkB (Lib.trimS R.2.1 [32, 9]) = B := ⟨_, rfl⟩
  obtain ⟨f, hf⟩ : ∃ f, R.2.2 = f := ⟨_, rfl⟩
  rw [hA, hB, hf]
  have HA := Lib.hid hA
  have HB := Lib.hid hB
  have HF := Lib.hid hf
  clear hA hB hf
  go_enter Tryd.func25, Tryd.ntmps25
  go_wp2
  go_loop [7] (fun a => ∃ k : Nat, k ≤ s.size ∧ a = .int .i64 (k : Int) ∧ Hid (∀ j : Nat, j < k → s.data.toList[j]? ≠ some b)) (fun a => s.size - (intOf a).toNat)
  case atStart => exact ⟨0, Nat.zero_le _, rfl, Lib.hid (fun j hj => by omega)⟩
  case round =>
    obtain ⟨k, hk, rfl, HN⟩ := hrel
    by_cases hlt : k < s.size
    · have d1 : decide ((k : Int) < (s.size : Int)) = true := by simp; omega
      have k1 : (0 : Int) ≤ (k : Int) := by omega
      have k2 : (k : Int) < (s.size : Int) := by omega
      have hb : s.data.toList[k]? = some s[k] := by
        rw [List.getElem?_eq_getElem (by simpa using hlt)]
        rfl
      by_cases hx : s[k] = b
      · have d2 : ((s[k].toNat : Int) == (b.toNat : Int)) = true := by rw [hx]; simp
        have hR : R = (s.data.toList.take k, s.data.toList.drop (k + 1), true) := by rw [← HR.out]; exact cut_here _ b k (by rw [hb, hx]) HN.out
        have e1 : mkB (Lib.trimS (s.data.toList.take k) [32, 9]) = A := by rw [← HA.out, hR]
        have e2 : mkB (Lib.trimS (s.data.toList.drop (k + 1)) [32, 9]) = B := by rw [← HB.out, hR]
        have HF1 : Hid (f = true) := Lib.hid (by rw [← HF.out, hR])
        have k3 : (k : Int) ≤ (s.size : Int) := by omega
        have k4 : (0 : Int) ≤ (k : Int) + 1 := by omega
        have k5 : (k : Int) + 1 ≤ (s.size : Int) := by omega
        have TR1 := Lib.hid (fun w => specTrim_any (s.extract 0 k) w (by rw [ByteArray.size_extract]; omega))
        have TR2 := Lib.hid (fun w => specTrim_any (s.extract (k + 1) s.size) w (by rw [ByteArray.size_extract]; omega))
        rw [Lib.extract_data, List.drop_zero, Nat.sub_zero] at TR1
        rw [Lib.extract_data, List.take_of_length_le (by rw [List.length_drop, HLEN.out]; exact Nat.le_refl _)] at TR2
        rw [show ∀ l : List UInt8, (⟨l.toArray⟩ : ByteArray) = mkB l from fun _ => rfl] at TR1 TR2
        rw [e1] at TR1
        rw [e2] at TR2
        clear hR HR HN hb hx HLEN e1 e2 HA HB HF
        have o5 : ((k : Int) + 1).toNat = k + 1 := by omega
        have o6 : IntKind.i64.wrap ((k : Int) + 1) = (k : Int) + 1 := by rw [IntKind.wrap_i64]; omega
        go_wp2_with fail
        go_region_held3 (fun _ => True) (first | go_keep | exact trivial) (first | (go_at_call 28; refine (TR1.out _).mono ?_; rintro e w1 ⟨rfl, hw1⟩; clear TR1) | (go_at_call 28; refine (TR2.out _).mono ?_; rintro e w2 ⟨rfl, hw2⟩; clear TR2))
        go_wp2_with fail
        go_ret3
        exact ⟨by rw [HF1.out]; rfl, (Below.refl _ w).drew⟩
      · have d2 : ((s[k].toNat : Int) == (b.toNat : Int)) = false := ne_byte hx
        have HN2 : Hid (∀ j : Nat, j < k + 1 → s.data.toList[j]? ≠ some b) := Lib.hid (fun j hj => by
          by_cases hjk : j = k
          · rw [hjk, hb]
            intro h
            exact hx (Option.some.inj h)
          · exact HN.out j (by omega))
        clear HN hb hx
        go_wp2_with fail
        go_round
        case rel => exact ⟨k + 1, by omega, by go_num, HN2⟩
        case measure => simp [intOf]; omega
    · have d1 : decide ((k : Int) < (s.size : Int)) = false := by simp; omega
      have hR : R = (s.data.toList, [], false) := by
        rw [← HR.out]
        refine cut_not _ b (fun j h => ?_)
        have hj := (List.getElem?_eq_some_iff.1 h).1
        rw [HLEN.out] at hj
        exact HN.out j (by omega) h
      have e1 : mkB (Lib.trimS s.data.toList [32, 9]) = A := by rw [← HA.out, hR]
      have HB1 : Hid (B = ⟨#[]⟩) := Lib.hid (by rw [← HB.out, hR]; rfl)
      have HF1 : Hid (f = false) := Lib.hid (by rw [← HF.out, hR])
      have TR := Lib.hid (fun w => specTrim_any s w hs)
      rw [show ∀ l : List UInt8, (⟨l.toArray⟩ : ByteArray) = mkB l from fun _ => rfl, e1] at TR
      clear hR HR HN e1 HA HB HF
      go_wp2_with (go_at_call 28; refine (TR.out _).mono ?_; rintro e w1 ⟨rfl, hw⟩; rw [hw]; clear hw w1)
      go_ret3
      exact ⟨by rw [HB1.out, HF1.out]; rfl, Below.refl _ _⟩
end Go.Proofs.YtjleadlecdcdeaaDoor

/-
  Addresses: the walk of spec's Unquote.
-/
namespace Go.Proofs.YtjleadlecdcdeaaDoor
set_option linter.unusedVariables false
open Go.RowKit

theorem unesc_skip (l : List UInt8) (k : Nat) (c : UInt8) (h1 : l[k]? = some 92) (h2 : l[k + 1]? = some c) : unesc (l.drop k) = c :: unesc (l.drop (k + 2)) := by
  have a1 := (List.getElem?_eq_some_iff.1 h1).1
  have a2 := (List.getElem?_eq_some_iff.1 h2).1
  rw [List.getElem?_eq_getElem a1] at h1
  rw [List.getElem?_eq_getElem a2] at h2
  rw [List.drop_eq_getElem_cons a1, List.drop_eq_getElem_cons a2, Option.some.inj h1, Option.some.inj h2, unesc, if_pos rfl]
theorem unesc_take (l : List UInt8) (k : Nat) (b : UInt8) (h1 : l[k]? = some b) (h2 : b ≠ 92 ∨ l.length ≤ k + 1) : unesc (l.drop k) = b :: unesc (l.drop (k + 1)) := by
  have a1 := (List.getElem?_eq_some_iff.1 h1).1
  rw [List.getElem?_eq_getElem a1] at h1
  rw [List.drop_eq_getElem_cons a1, Option.some.inj h1]
  rcases h2 with h2 | h2
  · exact unesc_cons b _ h2
  · rw [List.drop_eq_nil_of_le h2]
    rfl
theorem byte_some (s : ByteArray) (k : Nat) (h : k < s.size) : s.data.toList[k]? = some s[k] := by
  rw [List.getElem?_eq_getElem (by simpa using h)]
  rfl
theorem quoted_small (t : ByteArray) (h : t.size < 2) : quotedL t.data.toList = false := by
  unfold quotedL
  rw [decide_eq_false (by simpa using h)]
  rfl
theorem quoted_is (t : ByteArray) (h : 2 ≤ t.size) : quotedL t.data.toList = ((t[0] == 34) && (t[t.size - 1] == 34)) := by
  unfold quotedL
  have hl : t.data.toList.length = t.size := by simp
  rw [decide_eq_true (by omega), hl, byte_at t 0 (by omega), byte_at t (t.size - 1) (by omega), Bool.true_and]
theorem ne_form {b c : UInt8} (h : b ≠ c) : ((b.toNat : Int) != (c.toNat : Int)) = true := by
  rw [bne_iff_ne]
  intro e
  exact h (UInt8.toNat_inj.1 (by omega))
theorem eq_form {b c : UInt8} (h : b = c) : ((b.toNat : Int) != (c.toNat : Int)) = false := by rw [h]; simp
/-- The text between the quotes. -/
def midL (t : ByteArray) : List UInt8 := (t.data.toList.drop 1).take (t.size - 2)
theorem mid_len (t : ByteArray) : (midL t).length = t.size - 2 := by
  unfold midL
  rw [List.length_take, List.length_drop, show t.data.toList.length = t.size by simp]
  omega
theorem mid_at (t : ByteArray) (k : Nat) (h : k < t.size - 2) : (midL t)[k]? = some (t[k + 1]'(by omega)) := by
  unfold midL
  rw [List.getElem?_take, if_pos h, List.getElem?_drop, Nat.add_comm 1 k, byte_some t (k + 1) (by omega)]

theorem mid_from (t : ByteArray) (j : Nat) (h1 : 1 ≤ j) (h : j < t.size - 1) : (midL t)[j - 1]? = some (t[j]'(by omega)) := by
  obtain ⟨k, rfl⟩ : ∃ k, j = k + 1 := ⟨j - 1, by omega⟩
  exact mid_at t k (by omega)
theorem mid_skip (t : ByteArray) (L R : List UInt8) (j : Nat) (h1 : 1 ≤ j) (h : j + 1 < t.size - 1) (h92 : t[j]'(by omega) = 92) (hL : L ++ unesc ((midL t).drop (j - 1)) = R) :
    (L ++ [t[j + 1]'(by omega)]) ++ unesc ((midL t).drop (j + 2 - 1)) = R := by
  have e1 := mid_from t j h1 (by omega)
  have e2 := mid_from t (j + 1) (by omega) h
  rw [h92] at e1
  rw [show j + 1 - 1 = j - 1 + 1 by omega] at e2
  rw [← hL, unesc_skip _ (j - 1) _ e1 e2, List.append_assoc, show j + 2 - 1 = j - 1 + 2 by omega]
  rfl
theorem mid_take (t : ByteArray) (L R : List UInt8) (j : Nat) (h1 : 1 ≤ j) (h : j < t.size - 1) (hn : t[j]'(by omega) ≠ 92 ∨ t.size - 1 ≤ j + 1) (hL : L ++ unesc ((midL t).drop (j - 1)) = R) :
    (L ++ [t[j]'(by omega)]) ++ unesc ((midL t).drop (j + 1 - 1)) = R := by
  have e1 := mid_from t j h1 (by omega)
  rw [← hL, unesc_take _ (j - 1) _ e1 (hn.imp id (fun h => by rw [mid_len]; omega)), List.append_assoc, show j + 1 - 1 = j - 1 + 1 by omega]
  rfl

set_option maxRecDepth 100000 in
set_option maxHeartbeats 1000000 in
theorem specUnquote_any (s : ByteArray) (w : World) (hs : s.size ≤ 1048576) :
    Calls Tryd.prog 46 #[.string s] w fun e w' => e = .returned (.string (mkB (unqL s.data.toList))) ∧ Below w.heap.size w w' := by
  obtain ⟨i0, hi, hz0, hz1, hz2⟩ := info_parts infoByteJ
  have TR := Lib.hid (fun w => specTrim_any s w hs)
  unfold unqL
  have htl := trimLen s.data.toList [32, 9]
  generalize Lib.trimS s.data.toList [32, 9] = T at TR htl ⊢
  obtain ⟨t, rfl⟩ : ∃ t : ByteArray, T = t.data.toList := ⟨mkB T, rfl⟩
  rw [show (⟨t.data.toList.toArray⟩ : ByteArray) = t from rfl] at TR
  have hts : t.size ≤ 1048576 := by simp at htl; omega
  clear htl
  by_cases h2 : t.size < 2
  · have g1 : decide ((t.size : Int) < 2) = true := by simp; omega
    unfold unqT
    rw [quoted_small t h2, if_neg (by simp), show mkB t.data.toList = t from rfl]
    clear h2
    go_enter Tryd.func46, Tryd.ntmps46
    go_wp2_with fail
    refine (TR.out _).mono ?_
    rintro e w1 ⟨rfl, rfl⟩
    go_wp2_with fail
    go_ret
    exact ⟨rfl, Below.refl _ _⟩
  · have g1 : decide ((t.size : Int) < 2) = false := by simp; omega
    have i0' : 0 < t.size := by omega
    have i1 : (0 : Int) ≤ (t.size : Int) - 1 := by omega
    have i2 : (t.size : Int) - 1 < (t.size : Int) := by omega
    have i3 : t.size - 1 < t.size := by omega
    have hq := quoted_is t (by omega)
    by_cases h0 : t[0] = 34
    · have g2 : ((t[0].toNat : Int) != 34) = false := eq_form (c := 34) h0
      by_cases hL : t[t.size - 1] = 34
      · have g3 : ((t[t.size - 1].toNat : Int) != 34) = false := eq_form (c := 34) hL
        rw [h0, hL] at hq
        have hR : unqT t.data.toList = unesc (midL t) := by
          unfold unqT midL
          rw [hq]
          simp
        rw [hR]
        obtain ⟨R, hR2⟩ : ∃ R, unesc (midL t) = R := ⟨_, rfl⟩
        rw [hR2]
        have HR : Hid (unesc ((midL t).drop 0) = R) := Lib.hid (by rw [List.drop_zero]; exact hR2)
        have H2 : Hid (2 ≤ t.size) := Lib.hid (by omega)
        clear hR hR2 hq h0 hL h2
        go_enter Tryd.func46, Tryd.ntmps46
        go_wp2_with fail
        refine (TR.out _).mono ?_
        rintro e w1 ⟨rfl, rfl⟩
        go_wp2_with fail
        go_loopw [4, 5] (fun o i wr => ∃ (j : Nat) (L : List UInt8), 1 ≤ j ∧ j ≤ t.size - 1 ∧ i = .int .i64 (j : Int) ∧ Hid (L ++ unesc ((midL t).drop (j - 1)) = R) ∧ L.length ≤ j ∧ wr.ownsRow w1.heap.size 5 1 o L.length (L.map bv) ∧ Below w1.heap.size w1 wr) (fun _ i _ => t.size - (intOf i).toNat)
        case atStart => exact ⟨1, [], Nat.le_refl _, by have := H2.out; omega, rfl, HR, by simp, World.ownsRow_lit w1 #[] 0 (Nat.le_refl _) (by decide) rfl, (Below.refl _ _).alloc (Nat.le_refl _) _⟩
        case round =>
          obtain ⟨j, L, hj1, hj, rfl, HL, hLl, hown, hB⟩ := hrel
          have hsz := hB.size
          have h2 := H2.out
          clear HR
          by_cases hlt : j < t.size - 1
          · have d1 : decide ((j : Int) < (t.size : Int) - 1) = true := by simp; omega
            have j1 : (0 : Int) ≤ (j : Int) := by omega
            have j2 : (j : Int) < (t.size : Int) := by omega
            have j3 : j < t.size := by omega
            by_cases h92 : t[j] = 92
            · have d2 : ((t[j].toNat : Int) == 92) = true := by rw [h92]; rfl
              by_cases hlt2 : j + 1 < t.size - 1
              · have d3 : decide ((j : Int) + 1 < (t.size : Int) - 1) = true := by simp; omega
                have j4 : (0 : Int) ≤ (j : Int) + 1 := by omega
                have j5 : (j : Int) + 1 < (t.size : Int) := by omega
                have j6 : j + 1 < t.size := by omega
                have HN := Lib.hid (mid_skip t L R j hj1 hlt2 h92 HL.out)
                clear h92 HL
                go_wp2_with (first | (at_builtin; refine wpList_append_own _ rfl _ _ 22 rfl w1.heap.size 5 i0 (.int .u8 0) 1 1 Tryd.underlying22 hi hz0 hz1 hz2 rfl (by decide) _ _ _ rfl (hown.alloc _) ⟨wr.heap.size, 0, none⟩ 1 1 [.int .u8 (t[j + 1].toNat : Int)] rfl rfl (cell_one_new _ _ _) (by simp [Value.oneCell']) (by unfold maxLen; omega) (by omega) (by simp; omega) ?_; intro v3 w3 hO3 hg3 _; have hB3 : Below w1.heap.size w1 w3 := (hB.alloc hsz _).grown hg3 (by simp; omega) (fun k e => (hown.lt k e).1)))
                have hrow : w3.ownsRow w1.heap.size 5 1 v3 (L ++ [t[j + 1]]).length ((L ++ [t[j + 1]]).map bv) := by simpa [bv] using hO3
                clear hown hO3 hg3
                go_wp2_with fail
                go_roundw
                case rel => exact ⟨j + 2, L ++ [t[j + 1]], by omega, by omega, by go_num, HN, by simp; omega, hrow, hB3⟩
                case measure => simp [intOf]; omega
              · have d3 : decide ((j : Int) + 1 < (t.size : Int) - 1) = false := by simp; omega
                have HN := Lib.hid (mid_take t L R j hj1 hlt (.inr (by omega)) HL.out)
                clear h92 HL
                go_wp2_with (first | (at_builtin; refine wpList_append_own _ rfl _ _ 22 rfl w1.heap.size 5 i0 (.int .u8 0) 1 1 Tryd.underlying22 hi hz0 hz1 hz2 rfl (by decide) _ _ _ rfl (hown.alloc _) ⟨wr.heap.size, 0, none⟩ 1 1 [.int .u8 (t[j].toNat : Int)] rfl rfl (cell_one_new _ _ _) (by simp [Value.oneCell']) (by unfold maxLen; omega) (by omega) (by simp; omega) ?_; intro v3 w3 hO3 hg3 _; have hB3 : Below w1.heap.size w1 w3 := (hB.alloc hsz _).grown hg3 (by simp; omega) (fun k e => (hown.lt k e).1)))
                have hrow : w3.ownsRow w1.heap.size 5 1 v3 (L ++ [t[j]]).length ((L ++ [t[j]]).map bv) := by simpa [bv] using hO3
                clear hown hO3 hg3
                go_wp2_with fail
                go_roundw
                case rel => exact ⟨j + 1, L ++ [t[j]], by omega, by omega, by go_num, HN, by simp; omega, hrow, hB3⟩
                case measure => simp [intOf]; omega
            · have d2 : ((t[j].toNat : Int) == 92) = false := ne_byte (b := 92) h92
              have HN := Lib.hid (mid_take t L R j hj1 hlt (.inl h92) HL.out)
              clear h92 HL
              go_wp2_with (first | (at_builtin; refine wpList_append_own _ rfl _ _ 22 rfl w1.heap.size 5 i0 (.int .u8 0) 1 1 Tryd.underlying22 hi hz0 hz1 hz2 rfl (by decide) _ _ _ rfl (hown.alloc _) ⟨wr.heap.size, 0, none⟩ 1 1 [.int .u8 (t[j].toNat : Int)] rfl rfl (cell_one_new _ _ _) (by simp [Value.oneCell']) (by unfold maxLen; omega) (by omega) (by simp; omega) ?_; intro v3 w3 hO3 hg3 _; have hB3 : Below w1.heap.size w1 w3 := (hB.alloc hsz _).grown hg3 (by simp; omega) (fun k e => (hown.lt k e).1)))
              have hrow : w3.ownsRow w1.heap.size 5 1 v3 (L ++ [t[j]]).length ((L ++ [t[j]]).map bv) := by simpa [bv] using hO3
              clear hown hO3 hg3
              go_wp2_with fail
              go_roundw
              case rel => exact ⟨j + 1, L ++ [t[j]], by omega, by omega, by go_num, HN, by simp; omega, hrow, hB3⟩
              case measure => simp [intOf]; omega
          · have d1 : decide ((j : Int) < (t.size : Int) - 1) = false := by simp; omega
            have HQ : Hid (L = R) := Lib.hid (by
              have := HL.out
              rw [List.drop_eq_nil_of_le (by rw [mid_len]; omega)] at this
              simpa [unesc] using this)
            have hback := rowJ_back (P := Tryd.prog) hown 22 9 5 Tryd.underlying22 Tryd.underlying5 Tryd.underlying9
            go_wp2_with fail
            go_ret
            exact ⟨by rw [← HQ.out]; rfl, hB⟩
      · have g3 : ((t[t.size - 1].toNat : Int) != 34) = true := ne_form (c := 34) hL
        unfold unqT
        rw [hq, h0, beq_eq_false_iff_ne.2 hL, if_neg (by simp), show mkB t.data.toList = t from rfl]
        clear hq h0 hL h2
        go_enter Tryd.func46, Tryd.ntmps46
        go_wp2_with fail
        refine (TR.out _).mono ?_
        rintro e w1 ⟨rfl, rfl⟩
        go_wp2_with fail
        go_ret
        exact ⟨rfl, Below.refl _ _⟩
    · have g2 : ((t[0].toNat : Int) != 34) = true := ne_form (c := 34) h0
      unfold unqT
      rw [hq, beq_eq_false_iff_ne.2 h0, if_neg (by simp), show mkB t.data.toList = t from rfl]
      clear hq h0 h2
      go_enter Tryd.func46, Tryd.ntmps46
      go_wp2_with fail
      refine (TR.out _).mono ?_
      rintro e w1 ⟨rfl, rfl⟩
      go_wp2_with fail
      go_ret
      exact ⟨rfl, Below.refl _ _⟩
end Go.Proofs.YtjleadlecdcdeaaDoor

/-
  What an append to a row of the call's own leaves.
-/
namespace Go.Proofs.YtjleadlecdcdeaaDoor
set_option linter.unusedVariables false
open Go.RowKit

theorem row_not {w : World} {B k n : Nat} {e : TypeId} {v : Value} {xs : List Value} (h : w.ownsRow B e k v n xs) {j : Nat} {cs : Array Value} {T : TypeId} {fr : Nat × Nat} (hj : w.heap[j]? = some (.cells cs T fr)) (ht : T ≠ e) : some j ≠ v.ownBlock := by
  intro e'
  rcases h.2 with ⟨rfl, _⟩ | ⟨g, cap, cur, rfl, _, hgb, _⟩
  · simp [Value.ownBlock] at e'
  · have : g = j := by simpa [Value.ownBlock] using e'.symm
    subst this; rw [hj] at hgb; cases hgb; exact ht rfl
theorem heap_lt {w : World} {j : Nat} {o : Obj} (h : w.heap[j]? = some o) : j < w.heap.size := (Array.getElem?_eq_some_iff.1 h).1
theorem two_kept {wa wb : World} {B k n : Nat} {e : TypeId} {v : Value} {xs : List Value} {j : Nat} {cs : Array Value} {T : TypeId} (h : wa.ownsRow B e k v n xs) (hg : wa.grownBy wb v.ownBlock) (hj : wa.heap[j]? = some (.cells cs T (0, 0))) (ht : T ≠ e) : wb.heap[j]? = some (.cells cs T (0, 0)) :=
  (hg.block _ (heap_lt hj) (row_not h hj ht)).trans hj
theorem app_below {w wa wb : World} {k n : Nat} {e : TypeId} {v : Value} {xs : List Value} (hb : Below w.heap.size w wa) (h : wa.ownsRow w.heap.size e k v n xs) (hg : wa.grownBy wb v.ownBlock) : Below w.heap.size w wb :=
  hb.grown hg hb.size (fun k e => (h.lt k e).1)
theorem alloc_new (w : World) (cs : Array Value) (T : TypeId) : (w.alloc (.cells cs T)).heap[w.heap.size]? = some (.cells cs T (0, 0)) := by
  show (w.heap.push _)[w.heap.size]? = some _
  simp
theorem cell_of_two {w : World} {j : Nat} {a b : Value} {T : TypeId} {fr : Nat × Nat} (h : w.heap[j]? = some (.cells #[a, b] T fr)) : w.cell? ⟨j, 0, none⟩ = some a ∧ w.cell? ⟨j, 1, none⟩ = some b := by
  constructor <;> simp [World.cell?, h]

end Go.Proofs.YtjleadlecdcdeaaDoor

/-
  Kinds: the walk of spec's l07Param.
-/
namespace Go.Proofs.YtjleadlecdcdeaaDoor
set_option linter.unusedVariables false
open Go.RowKit

/-- What l07Param hands back. -/
def parV (o : Option Pr) : Value := match o with
  | some p => .tuple #[.agg #[.string (mkB p.name), .string (mkB p.value)], .bool true]
  | none => .tuple #[.agg #[.string ⟨#[]⟩, .string ⟨#[]⟩], .bool false]
theorem set_two7 {W : World} {n : Nat} {T : TypeId} {a b : Value} (h : W.heap[n]? = some (.cells #[a, b] T (0, 0))) (A B : Value) :
    ((W.setCell ⟨n, 0, none⟩ A).setCell ⟨n, 1, none⟩ B).heap[n]? = some (.cells #[A, B] T (0, 0)) := by
  have h1 := heap_setCell_same W n 0 #[a, b] T A h
  have h2 := heap_setCell_same _ n 1 _ T B h1
  simpa using h2
theorem free_two7 {W : World} {n : Nat} {T : TypeId} {a b : Value} (h : W.heap[n]? = some (.cells #[a, b] T (0, 0))) : W.frozen? ⟨n, 0, none⟩ = false ∧ W.frozen? ⟨n, 1, none⟩ = false := by
  constructor <;> simp [World.frozen?, h]
theorem below_two7 {w W : World} {n B : Nat} (h : Below B w W) (hn : B ≤ n) (a b : Value) : Below B w ((W.setCell ⟨n, 0, none⟩ a).setCell ⟨n, 1, none⟩ b) :=
  (h.setCell (p := ⟨n, 0, none⟩) hn _).setCell (p := ⟨n, 1, none⟩) hn _
theorem cutT_len (b : UInt8) (s : List UInt8) : (cutT b s).1.length ≤ s.length ∧ (cutT b s).2.1.length ≤ s.length := by
  have h1 := trimLen (Lib.cut s [b]).1 [32, 9]
  have h2 := trimLen (Lib.cut s [b]).2.1 [32, 9]
  have h3 : (Lib.cut s [b]).1.length ≤ s.length ∧ (Lib.cut s [b]).2.1.length ≤ s.length := by
    unfold Lib.cut
    split <;> simp <;> omega
  unfold cutT
  simp only
  omega

set_option maxRecDepth 100000 in
set_option maxHeartbeats 2000000 in
theorem param_any (s : ByteArray) (w : World) (hs : s.size ≤ 1048576) :
    Calls Tryd.prog 29 #[.string s] w fun e w' => e = .returned (parV (paramOf s.data.toList)) ∧ Below w.heap.size w w' := by
  have CU := Lib.hid (fun w => cut7_any s 61 w hs)
  have b61 : (((61 : UInt8).toNat : Nat) : Int) = 61 := rfl
  rw [b61] at CU
  have hcl := cutT_len 61 s.data.toList
  rw [show s.data.toList.length = s.size by simp] at hcl
  obtain ⟨V, hV⟩ : ∃ V, parV (paramOf s.data.toList) = V := ⟨_, rfl⟩
  rw [hV]
  unfold paramOf at hV
  generalize (cutT 61 s.data.toList).1 = nl at CU hV hcl
  generalize (cutT 61 s.data.toList).2.1 = vl at CU hV hcl
  generalize (cutT 61 s.data.toList).2.2 = f at CU hV
  obtain ⟨n, rfl⟩ : ∃ n : ByteArray, nl = n.data.toList := ⟨mkB nl, rfl⟩
  obtain ⟨v, rfl⟩ : ∃ v : ByteArray, vl = v.data.toList := ⟨mkB vl, rfl⟩
  rw [show mkB n.data.toList = n from rfl, show mkB v.data.toList = v from rfl] at CU
  have hns : n.size ≤ 1048576 := by have := hcl.1; simp at this; omega
  have hvs : v.size ≤ 1048576 := by have := hcl.2; simp at this; omega
  have TN := Lib.hid (fun w => token_any n w hns)
  have TV := Lib.hid (fun w => token_any v w hvs)
  have UP := Lib.hid (fun w => specUpper_any n w (by unfold maxLen; omega))
  have UQ := Lib.hid (fun w => specUnquote_any v w hvs)
  clear hcl b61
  have h0 := alloc_new w #[.string ⟨#[]⟩, .string ⟨#[]⟩] 45
  have hB0 : Below w.heap.size w (w.alloc (.cells #[.string ⟨#[]⟩, .string ⟨#[]⟩] 45)) := (Below.refl _ _).alloc (Nat.le_refl _) _
  have HB0 := Lib.hid hB0
  have H0 := Lib.hid h0
  clear h0 hB0
  go_enter Tryd.func29, Tryd.ntmps29
  go_wp2_with fail
  refine (CU.out _).mono ?_
  rintro e w1 ⟨rfl, hB1⟩
  have h1 := (hB1.block _ (by simp)).trans H0.out
  have B1 := Lib.hid (HB0.out.trans (hB1.mono HB0.out.size))
  have H1 := Lib.hid h1
  clear hB1 h1
  obtain ⟨_, _⟩ := free_two7 H1.out
  obtain ⟨_, _⟩ := cell_of_two H1.out
  obtain ⟨U, hU⟩ : ∃ U, mkB (upS n.data.toList) = U := ⟨_, rfl⟩
  rw [show (⟨(upS n.data.toList).toArray⟩ : ByteArray) = U from hU] at UP
  obtain ⟨Q, hQ⟩ : ∃ Q, mkB (unqL v.data.toList) = Q := ⟨_, rfl⟩
  rw [hQ] at UQ
  cases f with
  | false =>
    have HV : Hid (.tuple #[.agg #[.string ⟨#[]⟩, .string ⟨#[]⟩], .bool false] = V) := Lib.hid (by rw [← hV, if_neg (by simp)]; rfl)
    clear hV hU hQ
    go_wp2_with fail
    have q := cell_of_two (set_two7 H1.out (.string ⟨#[]⟩) (.string ⟨#[]⟩))
    refine bodyPost_ret (v := .tuple #[.agg #[.string ⟨#[]⟩, .string ⟨#[]⟩], .bool false]) (by simp [results, Tryd.results29, go_sem, q.1, q.2]) rfl ⟨by rw [← HV.out], ?_⟩
    exact below_two7 B1.out (Nat.le_refl _) _ _
  | true =>
    cases hn : tokL n.data.toList with
    | false =>
      rw [hn] at TN
      have HV : Hid (.tuple #[.agg #[.string ⟨#[]⟩, .string ⟨#[]⟩], .bool false] = V) := Lib.hid (by rw [← hV, if_neg (by rw [hn]; simp)]; rfl)
      clear hV hU hQ hn
      go_wp2_with (first | (go_at_call 26; refine (TN.out _).mono ?_; rintro e w' ⟨rfl, hw⟩; rw [hw]; clear hw w' TN))
      have q := cell_of_two (set_two7 H1.out (.string ⟨#[]⟩) (.string ⟨#[]⟩))
      refine bodyPost_ret (v := .tuple #[.agg #[.string ⟨#[]⟩, .string ⟨#[]⟩], .bool false]) (by simp [results, Tryd.results29, go_sem, q.1, q.2]) rfl ⟨by rw [← HV.out], ?_⟩
      exact below_two7 B1.out (Nat.le_refl _) _ _
    | true =>
      rw [hn] at TN
      rw [if_pos ⟨rfl, hn⟩] at hV
      cases hv : tokL v.data.toList with
      | true =>
        rw [hv] at TV
        have HV : Hid (.tuple #[.agg #[.string U, .string v], .bool true] = V) := Lib.hid (by rw [← hV]; unfold valOf; rw [if_pos hv, ← hU]; rfl)
        clear hV hU hQ hn hv
        go_wp2_with (first | (go_at_call 26; refine (TN.out _).mono ?_; rintro e w' ⟨rfl, hw⟩; rw [hw]; clear hw w' TN) | (go_at_call 26; refine (TV.out _).mono ?_; rintro e w' ⟨rfl, hw⟩; rw [hw]; clear hw w' TV))
        refine (UP.out _).mono ?_
        rintro e w2 ⟨rfl, hB2⟩
        have H2 := Lib.hid ((hB2.block _ (heap_lt H1.out)).trans H1.out)
        have B2 := Lib.hid (B1.out.trans (hB2.mono B1.out.size))
        clear hB2
        obtain ⟨_, _⟩ := free_two7 H2.out
        obtain ⟨_, _⟩ := cell_of_two H2.out
        go_wp2_with fail
        have q := cell_of_two (set_two7 H2.out (.string U) (.string v))
        refine bodyPost_ret (v := .tuple #[.agg #[.string U, .string v], .bool true]) (by simp [results, Tryd.results29, go_sem, q.1, q.2]) rfl ⟨by rw [← HV.out], ?_⟩
        exact below_two7 B2.out (Nat.le_refl _) _ _
      | false =>
        rw [hv] at TV
        have hvo : valOf v.data.toList = if quotedL v.data.toList = true ∧ hasL 34 ((v.data.toList.drop 1).take (v.data.toList.length - 2)) = false then some (unqL v.data.toList) else none := by unfold valOf; rw [if_neg (by rw [hv]; simp)]
        rw [hvo] at hV
        by_cases h2 : v.size < 2
        · have g1 : decide ((v.size : Int) < 2) = true := by simp; omega
          have HV : Hid (.tuple #[.agg #[.string ⟨#[]⟩, .string ⟨#[]⟩], .bool false] = V) := Lib.hid (by rw [← hV, quoted_small v h2, if_neg (by simp)]; rfl)
          clear hV hU hQ hn hv hvo h2
          go_wp2_with (first | (go_at_call 26; refine (TN.out _).mono ?_; rintro e w' ⟨rfl, hw⟩; rw [hw]; clear hw w' TN) | (go_at_call 26; refine (TV.out _).mono ?_; rintro e w' ⟨rfl, hw⟩; rw [hw]; clear hw w' TV))
          have q := cell_of_two (set_two7 H1.out (.string ⟨#[]⟩) (.string ⟨#[]⟩))
          refine bodyPost_ret (v := .tuple #[.agg #[.string ⟨#[]⟩, .string ⟨#[]⟩], .bool false]) (by simp [results, Tryd.results29, go_sem, q.1, q.2]) rfl ⟨by rw [← HV.out], ?_⟩
          exact below_two7 B1.out (Nat.le_refl _) _ _
        · have g1 : decide ((v.size : Int) < 2) = false := by simp; omega
          have i0' : 0 < v.size := by omega
          have i1 : (0 : Int) ≤ (v.size : Int) - 1 := by omega
          have i2 : (v.size : Int) - 1 < (v.size : Int) := by omega
          have i3 : v.size - 1 < v.size := by omega
          have i4 : (1 : Int) ≤ (v.size : Int) - 1 := by omega
          have i5 : (v.size : Int) - 1 ≤ (v.size : Int) := by omega
          have hq := quoted_is v (by omega)
          by_cases h0 : v[0] = 34
          · have g2 : ((v[0].toNat : Int) != 34) = false := eq_form (c := 34) h0
            by_cases hL : v[v.size - 1] = 34
            · have g3 : ((v[v.size - 1].toNat : Int) != 34) = false := eq_form (c := 34) hL
              rw [h0, hL] at hq
              have HA := Lib.hid (fun w => has_any (v.extract 1 (v.size - 1)) 34 w (by rw [ByteArray.size_extract]; omega))
              rw [show (((34 : UInt8).toNat : Nat) : Int) = 34 from rfl, Lib.extract_data, show v.size - 1 - 1 = v.data.toList.length - 2 by simp; omega] at HA
              cases hh : hasL 34 ((v.data.toList.drop 1).take (v.data.toList.length - 2)) with
              | true =>
                rw [hh] at HA
                have HV : Hid (.tuple #[.agg #[.string ⟨#[]⟩, .string ⟨#[]⟩], .bool false] = V) := Lib.hid (by rw [← hV, hh, if_neg (by simp)]; rfl)
                clear hV hU hQ hn hv hvo h2 hq h0 hL hh
                go_wp2_with (first | (go_at_call 26; refine (TN.out _).mono ?_; rintro e w' ⟨rfl, hw⟩; rw [hw]; clear hw w' TN) | (go_at_call 26; refine (TV.out _).mono ?_; rintro e w' ⟨rfl, hw⟩; rw [hw]; clear hw w' TV) | (go_at_call 44; refine (HA.out _).mono ?_; rintro e w' ⟨rfl, hw⟩; rw [hw]; clear hw w' HA))
                have q := cell_of_two (set_two7 H1.out (.string ⟨#[]⟩) (.string ⟨#[]⟩))
                refine bodyPost_ret (v := .tuple #[.agg #[.string ⟨#[]⟩, .string ⟨#[]⟩], .bool false]) (by simp [results, Tryd.results29, go_sem, q.1, q.2]) rfl ⟨by rw [← HV.out], ?_⟩
                exact below_two7 B1.out (Nat.le_refl _) _ _
              | false =>
                rw [hh] at HA
                have HV : Hid (.tuple #[.agg #[.string U, .string Q], .bool true] = V) := Lib.hid (by rw [← hV, hh, hq, if_pos ⟨rfl, rfl⟩, ← hU, ← hQ]; rfl)
                clear hV hU hQ hn hv hvo h2 hq h0 hL hh
                go_wp2_with (first | (go_at_call 26; refine (TN.out _).mono ?_; rintro e w' ⟨rfl, hw⟩; rw [hw]; clear hw w' TN) | (go_at_call 26; refine (TV.out _).mono ?_; rintro e w' ⟨rfl, hw⟩; rw [hw]; clear hw w' TV) | (go_at_call 44; refine (HA.out _).mono ?_; rintro e w' ⟨rfl, hw⟩; rw [hw]; clear hw w' HA))
                refine (UP.out _).mono ?_
                rintro e w2 ⟨rfl, hB2⟩
                have H2 := Lib.hid ((hB2.block _ (heap_lt H1.out)).trans H1.out)
                have B2 := Lib.hid (B1.out.trans (hB2.mono B1.out.size))
                clear hB2
                go_wp2_with fail
                refine (UQ.out _).mono ?_
                rintro e w3 ⟨rfl, hB3⟩
                have H3 := Lib.hid ((hB3.block _ (heap_lt H2.out)).trans H2.out)
                have B3 := Lib.hid (B2.out.trans (hB3.mono B2.out.size))
                clear hB3
                obtain ⟨_, _⟩ := free_two7 H3.out
                obtain ⟨_, _⟩ := cell_of_two H3.out
                go_wp2_with fail
                have q := cell_of_two (set_two7 H3.out (.string U) (.string Q))
                refine bodyPost_ret (v := .tuple #[.agg #[.string U, .string Q], .bool true]) (by simp [results, Tryd.results29, go_sem, q.1, q.2]) rfl ⟨by rw [← HV.out], ?_⟩
                exact below_two7 B3.out (Nat.le_refl _) _ _
            · have g3 : ((v[v.size - 1].toNat : Int) != 34) = true := ne_form (c := 34) hL
              have HV : Hid (.tuple #[.agg #[.string ⟨#[]⟩, .string ⟨#[]⟩], .bool false] = V) := Lib.hid (by rw [← hV, hq, h0, beq_eq_false_iff_ne.2 hL, if_neg (by simp)]; rfl)
              clear hV hU hQ hn hv hvo h2 hq h0 hL
              go_wp2_with (first | (go_at_call 26; refine (TN.out _).mono ?_; rintro e w' ⟨rfl, hw⟩; rw [hw]; clear hw w' TN) | (go_at_call 26; refine (TV.out _).mono ?_; rintro e w' ⟨rfl, hw⟩; rw [hw]; clear hw w' TV))
              have q := cell_of_two (set_two7 H1.out (.string ⟨#[]⟩) (.string ⟨#[]⟩))
              refine bodyPost_ret (v := .tuple #[.agg #[.string ⟨#[]⟩, .string ⟨#[]⟩], .bool false]) (by simp [results, Tryd.results29, go_sem, q.1, q.2]) rfl ⟨by rw [← HV.out], ?_⟩
              exact below_two7 B1.out (Nat.le_refl _) _ _
          · have g2 : ((v[0].toNat : Int) != 34) = true := ne_form (c := 34) h0
            have HV : Hid (.tuple #[.agg #[.string ⟨#[]⟩, .string ⟨#[]⟩], .bool false] = V) := Lib.hid (by rw [← hV, hq, beq_eq_false_iff_ne.2 h0, if_neg (by simp)]; rfl)
            clear hV hU hQ hn hv hvo h2 hq h0
            go_wp2_with (first | (go_at_call 26; refine (TN.out _).mono ?_; rintro e w' ⟨rfl, hw⟩; rw [hw]; clear hw w' TN) | (go_at_call 26; refine (TV.out _).mono ?_; rintro e w' ⟨rfl, hw⟩; rw [hw]; clear hw w' TV))
            have q := cell_of_two (set_two7 H1.out (.string ⟨#[]⟩) (.string ⟨#[]⟩))
            refine bodyPost_ret (v := .tuple #[.agg #[.string ⟨#[]⟩, .string ⟨#[]⟩], .bool false]) (by simp [results, Tryd.results29, go_sem, q.1, q.2]) rfl ⟨by rw [← HV.out], ?_⟩
            exact below_two7 B1.out (Nat.le_refl _) _ _
end Go.Proofs.YtjleadlecdcdeaaDoor

/-
  A slice of strings of the call's own.
-/
namespace Go.Proofs.YtjleadlecdcdeaaDoor
set_option linter.unusedVariables false
open Go.RowKit

/-- The call hands back a slice that owns the strings l; nothing that was there has turned. -/
def GivesStrs (l : List ByteArray) (w : World) (e : Ending) (w' : World) : Prop :=
  ∃ v, e = .returned v ∧ w'.ownsRow w.heap.size 9 1 v l.length (l.map Value.string) ∧ Below w.heap.size w w'

theorem infoStr : (Tryd.prog.info? 9).map (fun i => (i.zero, i.size, i.bytes)) = some (some (.string ⟨#[]⟩), 1, 16) := by kernel_rfl
end Go.Proofs.YtjleadlecdcdeaaDoor

/-
  The walk of spec.Split: a row of the call's own holds the parts.
-/
namespace Go.Proofs.YtjleadlecdcdeaaDoor
set_option linter.unusedVariables false
open Go.RowKit


set_option maxRecDepth 100000 in
set_option maxHeartbeats 1000000 in
theorem specSplit_any (s : ByteArray) (b : UInt8) (w : World) (hs : s.size ≤ 1048576) :
    Calls Tryd.prog 24 #[.string s, .int .u8 b.toNat] w (GivesStrs (splitAll s b) w) := by
  obtain ⟨i0, hi, hz0, hz1, hz2⟩ := info_parts infoStr
  go_enter Tryd.func24, Tryd.ntmps24
  go_wp2
  go_loopw [5, 6, 7] (fun v p i wr => ∃ (k : Nat), k ≤ s.size ∧ i = .int .i64 k ∧ p = .int .i64 (spF s b k).2 ∧ wr.ownsRow w.heap.size 9 1 v (spF s b k).1.length ((spF s b k).1.map Value.string) ∧ Below w.heap.size w wr) (fun _ _ i _ => s.size - (intOf i).toNat)
  case atStart =>
    exact ⟨0, Nat.zero_le _, rfl, rfl, World.ownsRow_lit w #[] 0 (Nat.le_refl _) (by decide) rfl, (Below.refl _ _).alloc (Nat.le_refl _) _⟩
  case round =>
    obtain ⟨k, hk, rfl, rfl, hown, hB⟩ := hrel
    obtain ⟨hle, hlen⟩ := spF_le s b k
    generalize hF : spF s b k = F at hown hle hlen
    have HF := Lib.hid hF
    clear hF
    obtain ⟨xs, o⟩ := F
    simp only at hown hle hlen
    have hsz := hB.size
    by_cases hlt : k < s.size
    · have e0 : s.data.toList[k]? = some s[k] := by
        rw [List.getElem?_eq_getElem (by simpa using hlt)]; rfl
      cases hoc : occB s b k
      · have t1 : ((s[k].toNat : Int) == (b.toNat : Int)) = false := by
          unfold occB at hoc
          rw [e0] at hoc
          rw [beq_eq_false_iff_ne] at hoc ⊢
          intro e; apply hoc; congr 1; apply UInt8.toNat_inj.1; omega
        have HST := Lib.hid (spF_no hoc)
        clear hoc e0
        go_wp2
        go_roundw
        case rel => exact ⟨k + 1, by omega, by go_num, by rw [HST.out, HF.out], by rw [HST.out, HF.out]; exact hown, hB⟩
        case measure => simp [intOf]; omega
      · have t1 : ((s[k].toNat : Int) == (b.toNat : Int)) = true := by
          unfold occB at hoc
          rw [e0, beq_iff_eq] at hoc
          injection hoc with hoc
          rw [hoc, beq_iff_eq]
        have HST := Lib.hid (spF_yes hoc)
        clear hoc e0
        go_wp2_with (at_builtin; refine wpList_append_own _ rfl _ _ 42 rfl w.heap.size 9 i0 (.string ⟨#[]⟩) 1 16 Tryd.underlying42 hi hz0 hz1 hz2 rfl (by decide) _ _ _ rfl (hown.alloc _) ⟨wr.heap.size, 0, none⟩ 1 1 [.string (s.extract o k)] rfl rfl (cell_one_new _ _ _) (by simp [Value.oneCell']) (by unfold maxLen; omega) (by omega) (by simp; omega) ?_; intro v' w1 hown' hgrow _)
        have hB1 : Below w.heap.size w w1 := (hB.alloc hsz _).grown hgrow (by simp; omega) (fun k e => (hown.lt k e).1)
        go_roundw
        case rel => exact ⟨k + 1, by omega, by go_num, by rw [HST.out, HF.out]; go_num, by rw [HST.out, HF.out]; simpa using hown', hB1⟩
        case measure => simp [intOf]; omega
    · obtain rfl : k = s.size := by omega
      have HV : Hid (splitAll s b = xs ++ [s.extract o s.size]) := Lib.hid (by unfold splitAll; rw [HF.out])
      go_wp2_with (at_builtin; refine wpList_append_own _ rfl _ _ 42 rfl w.heap.size 9 i0 (.string ⟨#[]⟩) 1 16 Tryd.underlying42 hi hz0 hz1 hz2 rfl (by decide) _ _ _ rfl (hown.alloc _) ⟨wr.heap.size, 0, none⟩ 1 1 [.string (s.extract o s.size)] rfl rfl (cell_one_new _ _ _) (by simp [Value.oneCell']) (by unfold maxLen; omega) (by omega) (by simp; omega) ?_; intro v' w1 hown' hgrow _)
      have hB1 : Below w.heap.size w w1 := (hB.alloc hsz _).grown hgrow (by simp; omega) (fun k e => (hown.lt k e).1)
      go_ret
      exact ⟨v', rfl, by rw [HV.out]; simpa using hown', hB1⟩
end Go.Proofs.YtjleadlecdcdeaaDoor

/-
  A cell of three.
-/
namespace Go.Proofs.YtjleadlecdcdeaaDoor
set_option linter.unusedVariables false
open Go.RowKit

/-- A cell of three. -/
theorem new_three (w : World) (a b c : Value) (T : TypeId) : (w.alloc (.cells #[a, b, c] T)).heap[w.heap.size]? = some (.cells #[a, b, c] T (0, 0)) := by
  show (w.heap.push _)[w.heap.size]? = some _
  simp
theorem three_cells {W : World} {n : Nat} {T : TypeId} {a b c : Value} {fr : Nat × Nat} (h : W.heap[n]? = some (.cells #[a, b, c] T fr)) : W.cell? ⟨n, 0, none⟩ = some a ∧ W.cell? ⟨n, 1, none⟩ = some b ∧ W.cell? ⟨n, 2, none⟩ = some c := by
  refine ⟨?_, ?_, ?_⟩ <;> simp [World.cell?, h]
theorem three_free {W : World} {n : Nat} {T : TypeId} {a b c : Value} (h : W.heap[n]? = some (.cells #[a, b, c] T (0, 0))) : W.frozen? ⟨n, 0, none⟩ = false ∧ W.frozen? ⟨n, 1, none⟩ = false ∧ W.frozen? ⟨n, 2, none⟩ = false := by
  refine ⟨?_, ?_, ?_⟩ <;> simp [World.frozen?, h]
theorem set_three {W : World} {n : Nat} {T : TypeId} {a b c : Value} (h : W.heap[n]? = some (.cells #[a, b, c] T (0, 0))) (A B C : Value) :
    (((W.setCell ⟨n, 0, none⟩ A).setCell ⟨n, 1, none⟩ B).setCell ⟨n, 2, none⟩ C).heap[n]? = some (.cells #[A, B, C] T (0, 0)) := by
  have h1 := heap_setCell_same W n 0 #[a, b, c] T A h
  have h2 := heap_setCell_same _ n 1 _ T B h1
  have h3 := heap_setCell_same _ n 2 _ T C h2
  simpa using h3
theorem below_three {w W : World} {n B : Nat} (h : Below B w W) (hn : B ≤ n) (a b c : Value) : Below B w (((W.setCell ⟨n, 0, none⟩ a).setCell ⟨n, 1, none⟩ b).setCell ⟨n, 2, none⟩ c) :=
  ((h.setCell (p := ⟨n, 0, none⟩) hn _).setCell (p := ⟨n, 1, none⟩) hn _).setCell (p := ⟨n, 2, none⟩) hn _
theorem cell_three_new (w : World) (a b c : Value) (T : TypeId) (g : Nat) (hg : g = w.heap.size) : ∀ j u, [a, b, c][j]? = some u → (w.alloc (.cells #[a, b, c] T)).cell? ((⟨g, 0, none⟩ : Addr).add j) = some u := by
  subst hg
  intro j u h
  have e : (⟨w.heap.size, 0, none⟩ : Addr).add j = ⟨w.heap.size, j, none⟩ := by unfold Addr.add; split <;> simp_all
  rw [e]
  match j, h with
  | 0, h => rw [← Option.some.inj h, World.cell?, heap_alloc_new]; rfl
  | 1, h => rw [← Option.some.inj h, World.cell?, heap_alloc_new]; rfl
  | 2, h => rw [← Option.some.inj h, World.cell?, heap_alloc_new]; rfl
  | j + 3, h => simp at h
end Go.Proofs.YtjleadlecdcdeaaDoor

/-
  Kinds: the walk of spec's ReadKind.
-/
namespace Go.Proofs.YtjleadlecdcdeaaDoor
set_option linter.unusedVariables false
open Go.RowKit

/-- The call hands back a kind, whose parameters lie in memory of its own, or none. -/
def GivesKd (o : Option Kd) (w : World) (e : Ending) (w' : World) : Prop :=
  match o with
  | none => e = .returned (.tuple #[.agg #[.string ⟨#[]⟩, .string ⟨#[]⟩, .slice none 0 0], .bool false]) ∧ Below w.heap.size w w'
  | some k => ∃ v, e = .returned (.tuple #[.agg #[.string (mkB k.type), .string (mkB k.sub), v], .bool true]) ∧ w'.ownsRow w.heap.size 45 2 v k.params.length (prCells k.params) ∧ Below w.heap.size w w'
/-- Between two rounds: the kind's own block, and its parameters' row. -/
structure KrW (wA wr : World) (kb : Nat) (U1 U2 : ByteArray) (pv : Value) (acc : List Pr) : Prop where
  row : wr.ownsRow wA.heap.size 45 2 pv acc.length (prCells acc)
  box : wr.heap[kb]? = some (.cells #[.string U1, .string U2, pv] 27 (0, 0))
  grown : wA.grownBy wr (some kb)
theorem KrW.call {wA wr w' : World} {kb : Nat} {U1 U2 : ByteArray} {pv : Value} {acc : List Pr} (h : KrW wA wr kb U1 U2 pv acc) (hB : Below wr.heap.size wr w') : KrW wA w' kb U1 U2 pv acc :=
  ⟨row_lat h.row hB, (hB.block _ (Array.getElem?_eq_some_iff.1 h.box).1).trans h.box, grownBy_below h.grown hB⟩
theorem KrW.store {wA wr w1 : World} {kb : Nat} {U1 U2 : ByteArray} {pv v' : Value} {acc : List Pr} (p : Pr) (h : KrW wA wr kb U1 U2 pv acc) (hkb : kb < wA.heap.size)
    (hown : w1.ownsRow wA.heap.size 45 2 v' (acc.length + 1) (prCells acc ++ [.string (mkB p.name), .string (mkB p.value)])) (hg : wr.grownBy w1 pv.ownBlock) :
    w1.heap[kb]? = some (.cells #[.string U1, .string U2, pv] 27 (0, 0)) ∧ KrW wA (w1.setCell ⟨kb, 2, none⟩ v') kb U1 U2 v' (acc ++ [p]) := by
  have hlt := (Array.getElem?_eq_some_iff.1 h.box).1
  have hne : some kb ≠ pv.ownBlock := fun e => by have := (h.row.lt kb e.symm).1; omega
  have h1 := (hg.block kb hlt hne).trans h.box
  refine ⟨h1, ?_, ?_, ?_⟩
  · have h2 : w1.ownsRow wA.heap.size 45 2 v' (acc ++ [p]).length (prCells (acc ++ [p])) := by
      rw [prCells_append]
      simpa [prCells] using hown
    refine ownsRow_setCell_other h2 (fun e => ?_) v'
    have := (hown.lt kb e).1
    omega
  · have := heap_setCell_same w1 kb 2 _ _ v' h1
    simpa using this
  · refine grownBy_set ⟨hg.os.trans h.grown.os, hg.tape.trans h.grown.tape, hg.output.trans h.grown.output, Nat.le_trans h.grown.size hg.size, fun k hk hn => (hg.block k (Nat.lt_of_lt_of_le hk h.grown.size) (fun e => ?_)).trans (h.grown.block k hk hn)⟩ _ _
    have := (h.row.lt k e.symm).1
    omega

theorem paramsA_cons (acc : List Pr) (x : List UInt8) (r : List (List UInt8)) : paramsA acc (x :: r) = if Lib.trimS x [32, 9] = [] then paramsA acc r else match paramOf x with
    | none => none
    | some p => paramsA (acc ++ [p]) r := rfl
theorem infoKd : (Tryd.prog.info? 27).map (fun i => (i.zero, i.size, i.bytes)) = some (some (.agg #[.string ⟨#[]⟩, .string ⟨#[]⟩, .slice none 0 0]), 3, 56) := by kernel_rfl

set_option maxRecDepth 100000 in
set_option maxHeartbeats 4000000 in
theorem specReadKind_any (s : ByteArray) (w : World) (hs : s.size ≤ 1048576) :
    Calls Tryd.prog 8 #[.string s] w (GivesKd (kindOf s.data.toList) w) := by
  obtain ⟨j0, hj0, hy0, hy1, hy2⟩ := info_parts infoPr
  obtain ⟨O, hO⟩ : ∃ O, kindOf s.data.toList = O := ⟨_, rfl⟩
  rw [hO]
  unfold kindOf semis at hO
  rw [show mkB s.data.toList = s from rfl] at hO
  have SP := Lib.hid (fun w => specSplit_any s 59 w hs)
  rw [show (((59 : UInt8).toNat : Nat) : Int) = 59 from rfl] at SP
  have hsm := split_small s 59
  obtain ⟨hsl, hsn⟩ := split_len s 59
  generalize splitAll s 59 = L at hO SP hsm hsl hsn
  obtain ⟨x0, L', rfl⟩ : ∃ x0 L', L = x0 :: L' := by
    cases L with
    | nil => exact absurd rfl hsn
    | cons a r => exact ⟨a, r, rfl⟩
  simp only [List.map_cons] at hO
  have hx0 := hsm x0 (by simp)
  have HSM : Hid (∀ y ∈ L', y.size ≤ 1048576) := Lib.hid (fun y hy => by have := hsm y (by simp [hy]); omega)
  have hll : L'.length ≤ 1048577 := by simp at hsl; omega
  have CU := Lib.hid (fun w => cut7_any x0 47 w (by omega))
  rw [show (((47 : UInt8).toNat : Nat) : Int) = 47 from rfl] at CU
  have hcl := cutT_len 47 x0.data.toList
  rw [show x0.data.toList.length = x0.size by simp] at hcl
  generalize (cutT 47 x0.data.toList).1 = nl at CU hO hcl
  generalize (cutT 47 x0.data.toList).2.1 = vl at CU hO hcl
  generalize (cutT 47 x0.data.toList).2.2 = f at CU hO
  obtain ⟨n, rfl⟩ : ∃ n : ByteArray, nl = n.data.toList := ⟨mkB nl, rfl⟩
  obtain ⟨v, rfl⟩ : ∃ v : ByteArray, vl = v.data.toList := ⟨mkB vl, rfl⟩
  rw [show mkB n.data.toList = n from rfl, show mkB v.data.toList = v from rfl] at CU
  have hns : n.size ≤ 1048576 := by have := hcl.1; simp at this; omega
  have hvs : v.size ≤ 1048576 := by have := hcl.2; simp at this; omega
  have TN := Lib.hid (fun w => token_any n w hns)
  have TV := Lib.hid (fun w => token_any v w hvs)
  have UN := Lib.hid (fun w => specUpper_any n w (by unfold maxLen; omega))
  have UV := Lib.hid (fun w => specUpper_any v w (by unfold maxLen; omega))
  clear hcl hsm hsl hsn hx0
  have H0 := Lib.hid (new_three w (.string ⟨#[]⟩) (.string ⟨#[]⟩) (.slice none 0 0) 27)
  have HB0 : Hid (Below w.heap.size w (w.alloc (.cells #[.string ⟨#[]⟩, .string ⟨#[]⟩, .slice none 0 0] 27))) := Lib.hid ((Below.refl _ _).alloc (Nat.le_refl _) _)
  go_enter Tryd.func8, Tryd.ntmps8
  go_wp2_with fail
  refine (SP.out _).mono ?_
  rintro e w1 ⟨vl, rfl, hl1, hB1⟩
  obtain ⟨gl, cl, rfl⟩ := row_slice1 hl1 (by simp)
  have HL1 := Lib.hid hl1
  have H1 := Lib.hid ((hB1.block _ (heap_lt H0.out)).trans H0.out)
  have B1 := Lib.hid (HB0.out.trans (hB1.mono HB0.out.size))
  have hc0 : w1.cell? ⟨gl, 0, none⟩ = some (.string x0) := by
    have := hl1.cellAt 0 (by simp)
    rw [this]
    rfl
  have hsz : (x0 :: L').length = L'.length + 1 := rfl
  rw [hsz] at HL1 ⊢
  have q1 : (0 : Int) < ((L'.length + 1 : Nat) : Int) := by omega
  clear hB1 hl1
  go_wp2_with fail
  refine (CU.out _).mono ?_
  rintro e w2 ⟨rfl, hB2⟩
  have H2 := Lib.hid ((hB2.block _ (heap_lt H1.out)).trans H1.out)
  have B2 := Lib.hid (B1.out.trans (hB2.mono B1.out.size))
  have HL2 := Lib.hid (row_lat HL1.out hB2)
  clear hB2 hc0
  obtain ⟨f0, f1, f2⟩ := three_free H2.out
  obtain ⟨f3, f4, f5⟩ := three_cells H2.out
  by_cases hok : f = true ∧ tokL n.data.toList = true ∧ tokL v.data.toList = true
  · obtain ⟨rfl, hn, hv⟩ := hok
    rw [if_pos ⟨rfl, hn, hv⟩] at hO
    rw [hn] at TN
    rw [hv] at TV
    obtain ⟨U1, hU1⟩ : ∃ U, mkB (upS n.data.toList) = U := ⟨_, rfl⟩
    obtain ⟨U2, hU2⟩ : ∃ U, mkB (upS v.data.toList) = U := ⟨_, rfl⟩
    rw [show (⟨(upS n.data.toList).toArray⟩ : ByteArray) = U1 from hU1] at UN
    rw [show (⟨(upS v.data.toList).toArray⟩ : ByteArray) = U2 from hU2] at UV
    clear hn hv f0 f1 f2 f3 f4 f5
    go_wp2_with (first | (go_at_call 26; refine (TN.out _).mono ?_; rintro e w' ⟨rfl, hw⟩; rw [hw]; clear hw w' TN) | (go_at_call 26; refine (TV.out _).mono ?_; rintro e w' ⟨rfl, hw⟩; rw [hw]; clear hw w' TV))
    refine (UN.out _).mono ?_
    rintro e w3 ⟨rfl, hB3⟩
    have H3 := Lib.hid ((hB3.block _ (heap_lt H2.out)).trans H2.out)
    have B3 := Lib.hid (B2.out.trans (hB3.mono B2.out.size))
    have HL3 := Lib.hid (row_lat HL2.out hB3)
    clear hB3
    go_wp2_with fail
    refine (UV.out _).mono ?_
    rintro e w4 ⟨rfl, hB4⟩
    have H4 := Lib.hid ((hB4.block _ (heap_lt H3.out)).trans H3.out)
    have B4 := Lib.hid (B3.out.trans (hB4.mono B3.out.size))
    have HL4 := Lib.hid (row_lat HL3.out hB4)
    clear hB4
    go_wp2_with fail
    obtain ⟨P, hP⟩ : ∃ P, paramsA [] (L'.map (fun b => b.data.toList)) = P := ⟨_, rfl⟩
    rw [hP] at hO
    have HP0 : Hid (paramsA [] ((L'.map (fun b => b.data.toList)).drop (1 - 1)) = P) := Lib.hid (by rw [show 1 - 1 = 0 from rfl, List.drop_zero]; exact hP)
    have HO : Hid (P.map (fun l => (⟨upS n.data.toList, upS v.data.toList, l⟩ : Kd)) = O) := Lib.hid hO
    have HU1 := Lib.hid hU1
    have HU2 := Lib.hid hU2
    have K0 := Lib.hid (KrW.mk (wA := w4.alloc (.cells #[.string U1, .string U2, .slice none 0 0] 27)) (acc := []) (World.ownsRow_nil _ _ _ _) (new_three w4 (.string U1) (.string U2) (.slice none 0 0) 27) (grownBy_refl _ _))
    have HA := Lib.hid ((Below.heap_alloc w4 (.cells #[.string U1, .string U2, .slice none 0 0] 27) _ (heap_lt H4.out)).trans H4.out)
    have BA := Lib.hid (B4.out.alloc B4.out.size (.cells #[.string U1, .string U2, .slice none 0 0] 27))
    have LA := Lib.hid (HL4.out.alloc (.cells #[.string U1, .string U2, .slice none 0 0] 27))
    have SA : w4.heap.size < (w4.alloc (.cells #[.string U1, .string U2, .slice none 0 0] 27)).heap.size := by simp
    have SG : gl < w4.heap.size := (HL4.out.lt gl rfl).2
    have S0 : w.heap.size < w4.heap.size := heap_lt H4.out
    obtain ⟨wA, hwA⟩ : ∃ x, w4.alloc (.cells #[.string U1, .string U2, .slice none 0 0] 27) = x := ⟨_, rfl⟩
    rw [hwA] at K0 HA BA LA SA ⊢
    obtain ⟨kb, hkb⟩ : ∃ kb, w4.heap.size = kb := ⟨_, rfl⟩
    rw [hkb] at K0 SA SG S0 ⊢
    clear hwA hkb hP hO hU1 hU2 H0 H1 H2 H3 H4 HB0 B1 B2 B3 B4 HL1 HL2 HL3 HL4 CU SP UN UV
    go_loopw [9] (fun i wr => ∃ (j : Nat) (acc : List Pr) (pv : Value), 1 ≤ j ∧ j ≤ L'.length + 1 ∧ i = .int .i64 (j : Int) ∧ Hid (paramsA acc ((L'.map (fun b => b.data.toList)).drop (j - 1)) = P) ∧ acc.length ≤ j ∧ Hid (KrW wA wr kb U1 U2 pv acc)) (fun i _ => L'.length + 1 - (intOf i).toNat)
    case atStart => exact ⟨1, [], .slice none 0 0, Nat.le_refl _, by omega, rfl, HP0, by simp, K0⟩
    case round =>
      obtain ⟨j, acc, pv, hj1, hj, rfl, HP, hacc, HK⟩ := hrel
      have hszr := HK.out.grown.size
      have HR : Hid (wr.heap[w.heap.size]? = some (.cells #[.string ⟨#[]⟩, .string ⟨#[]⟩, .slice none 0 0] 27 (0, 0))) := Lib.hid ((HK.out.grown.block _ (heap_lt HA.out) (fun e => by have := Option.some.inj e; omega)).trans HA.out)
      have BR : Hid (Below w.heap.size w wr) := Lib.hid (BA.out.grown HK.out.grown BA.out.size (fun k e => by have := Option.some.inj e; omega))
      by_cases hlt : j < L'.length + 1
      · have g1 : decide ((j : Int) < ((L'.length + 1 : Nat) : Int)) = true := by simp; omega
        have i1 : (0 : Int) ≤ (j : Int) := by omega
        have i2 : (j : Int) < ((L'.length + 1 : Nat) : Int) := by omega
        have hlin := LA.out.kept HK.out.grown (.inr (fun e => by simp [Value.ownBlock] at e; omega))
        have hjl : j - 1 < L'.length := by omega
        have hcell : wr.cell? ⟨gl, j, none⟩ = some (.string L'[j - 1]) := by
          rw [hlin.cellAt j (by omega), List.getElem?_map]
          obtain ⟨m, rfl⟩ : ∃ m, j = m + 1 := ⟨j - 1, by omega⟩
          rw [List.getElem?_cons_succ, List.getElem?_eq_getElem (by omega)]
          rfl
        have HP2 := HP.out
        rw [List.drop_eq_getElem_cons (by rw [List.length_map]; exact hjl), paramsA_cons, List.getElem_map, show j - 1 + 1 = j + 1 - 1 by omega] at HP2
        have hxs := HSM.out L'[j - 1] (List.getElem_mem hjl)
        have hgl : gl < wr.heap.size := by omega
        generalize L'[j - 1] = x at hcell HP2 hxs
        have TR := Lib.hid (fun w => specTrim_any x w hxs)
        have PA := Lib.hid (fun w => param_any x w hxs)
        obtain ⟨tx, htx⟩ : ∃ tx, Lib.trimS x.data.toList [32, 9] = tx := ⟨_, rfl⟩
        rw [htx, show (⟨tx.toArray⟩ : ByteArray) = mkB tx from rfl] at TR
        rw [htx] at HP2
        clear htx hlin HP
        by_cases htn : tx = []
        · rw [if_pos htn] at HP2
          have hue : (mkB tx).toList.isEmpty = true := by rw [Lib.toList_data, mkB_list, htn]; rfl
          have HP3 := Lib.hid HP2
          clear HP2 htn
          go_wp2_with (go_at_call 28; refine (TR.out _).mono ?_; rintro e w' ⟨rfl, hw⟩; rw [hw]; clear hw w')
          go_roundw
          case rel => exact ⟨j + 1, acc, pv, by omega, by omega, by go_num, HP3, by omega, HK⟩
          case measure => simp [intOf]; omega
        · rw [if_neg htn] at HP2
          have hue : (mkB tx).toList.isEmpty = false := by
            rw [Lib.toList_data, mkB_list]
            cases tx with
            | nil => exact absurd rfl htn
            | cons a r => rfl
          clear htn
          cases hpo : paramOf x.data.toList with
          | none =>
            rw [hpo] at HP2 PA
            have HF : Hid (O = none) := Lib.hid (by rw [← HO.out, ← HP2]; rfl)
            obtain ⟨pf, hpf⟩ : ∃ pf, parV none = pf := ⟨_, rfl⟩
            clear hpf
            unfold parV at PA
            obtain ⟨_, _, _⟩ := three_free HR.out
            obtain ⟨_, _, _⟩ := three_cells HR.out
            clear HP2 hpo
            go_wp2_with (first | (go_at_call 28; refine (TR.out _).mono ?_; rintro e w' ⟨rfl, hw⟩; rw [hw]; clear hw w'))
            refine (PA.out _).mono ?_
            rintro e w5 ⟨rfl, hB5⟩
            have HR5 := (hB5.block _ (heap_lt HR.out)).trans HR.out
            have B5 := Lib.hid (BR.out.trans (hB5.mono BR.out.size))
            have HR6 := (Below.heap_alloc w5 (.cells #[.string ⟨#[]⟩, .string ⟨#[]⟩] 45) _ (heap_lt HR5)).trans HR5
            have B6 := Lib.hid (B5.out.alloc B5.out.size (.cells #[.string ⟨#[]⟩, .string ⟨#[]⟩] 45))
            obtain ⟨_, _, _⟩ := three_free HR6
            obtain ⟨_, _, _⟩ := three_cells HR6
            have H6 := Lib.hid HR6
            clear hB5 HR5 HR6
            go_wp2_with fail
            have q := three_cells (set_three H6.out (.string ⟨#[]⟩) (.string ⟨#[]⟩) (.slice none 0 0))
            refine bodyPost_ret (v := .tuple #[.agg #[.string ⟨#[]⟩, .string ⟨#[]⟩, .slice none 0 0], .bool false]) (by simp [results, Tryd.results8, go_sem, q.1, q.2.1, q.2.2]) rfl ?_
            rw [HF.out]
            exact ⟨rfl, below_three B6.out (Nat.le_refl _) _ _ _⟩
          | some p =>
            rw [hpo] at HP2 PA
            unfold parV at PA
            have HP3 : Hid (paramsA (acc ++ [p]) ((L'.map (fun b => b.data.toList)).drop (j + 1 - 1)) = P) := Lib.hid HP2
            clear HP2 hpo
            go_wp2_with (first | (go_at_call 28; refine (TR.out _).mono ?_; rintro e w' ⟨rfl, hw⟩; rw [hw]; clear hw w'))
            refine (PA.out _).mono ?_
            rintro e w5 ⟨rfl, hB5⟩
            have K5 := Lib.hid (HK.out.call hB5)
            have K6 := Lib.hid (K5.out.call ((Below.refl _ _).alloc (Nat.le_refl _) (.cells #[.string (mkB p.name), .string (mkB p.value)] 45)))
            have K7 := Lib.hid (K6.out.call ((Below.refl _ _).alloc (Nat.le_refl _) (.cells #[.string (mkB p.name), .string (mkB p.value)] 45)))
            have HS5 : wA.heap.size ≤ w5.heap.size := K5.out.grown.size
            obtain ⟨_, _, c6⟩ := three_cells K6.out.box
            clear hB5
            go_wp2_with (first | (at_builtin; refine wpList_append_own _ rfl _ _ 25 rfl wA.heap.size 45 j0 (.agg #[.string ⟨#[]⟩, .string ⟨#[]⟩]) 2 32 Tryd.underlying25 hj0 hy0 hy1 hy2 rfl (by decide) _ _ _ rfl K7.out.row ⟨w5.heap.size + 1, 0, none⟩ 1 1 [.string (mkB p.name), .string (mkB p.value)] rfl rfl (cell_two_new _ _ _ _ _ (by simp)) (by simp [Value.oneCell']) (by unfold maxLen; omega) (by omega) (by simp; omega) ?_; intro v' w8 hown' hgrow _; obtain ⟨g', cap', rfl⟩ := ownsRow_succ hown'; obtain ⟨hb8, hk8⟩ := K7.out.store p (by omega) hown' hgrow; obtain ⟨_, _, _⟩ := three_cells hb8; obtain ⟨_, _, _⟩ := three_free hb8))
            have K8 := Lib.hid hk8
            clear hb8 hk8 hown' hgrow
            go_wp2_with fail
            go_roundw
            case rel => exact ⟨j + 1, acc ++ [p], _, by omega, by omega, by go_num, HP3, by simp; omega, K8⟩
            case measure => simp [intOf]; omega
      · have g1 : decide ((j : Int) < ((L'.length + 1 : Nat) : Int)) = false := by simp; omega
        have HF : Hid (O = some ⟨upS n.data.toList, upS v.data.toList, acc⟩) := Lib.hid (by
          have h := HP.out
          rw [List.drop_eq_nil_of_le (by rw [List.length_map]; omega)] at h
          rw [← HO.out, ← h]
          rfl)
        obtain ⟨_, _, _⟩ := three_free HR.out
        obtain ⟨_, _, _⟩ := three_cells HR.out
        obtain ⟨pp, pc, hpv⟩ := row_slice HK.out.row
        subst hpv
        obtain ⟨_, _, _⟩ := three_cells HK.out.box
        clear HP
        go_wp2_with fail
        have q := three_cells (set_three HR.out (.string U1) (.string U2) (.slice pp acc.length pc))
        refine bodyPost_ret (v := .tuple #[.agg #[.string U1, .string U2, .slice pp acc.length pc], .bool true]) (by simp [results, Tryd.results8, go_sem, q.1, q.2.1, q.2.2]) rfl ?_
        rw [HF.out]
        refine ⟨.slice pp acc.length pc, by rw [← HU1.out, ← HU2.out], ?_, below_three BR.out (Nat.le_refl _) _ _ _⟩
        have hr : ∀ k, (Value.slice pp acc.length pc).ownBlock = some k → k ≠ w.heap.size := fun k e => by have := (HK.out.row.lt k e).1; omega
        refine row_baseL (ownsRow_setCell_other (ownsRow_setCell_other (ownsRow_setCell_other HK.out.row (fun e => hr _ e rfl) _) (fun e => hr _ e rfl) _) (fun e => hr _ e rfl) _) (by omega)
  · have HF : Hid (O = none) := Lib.hid (by rw [← hO, if_neg hok])
    clear hO
    cases f with
    | false =>
      go_wp2_with fail
      have q := three_cells (set_three H2.out (.string ⟨#[]⟩) (.string ⟨#[]⟩) (.slice none 0 0))
      refine bodyPost_ret (v := .tuple #[.agg #[.string ⟨#[]⟩, .string ⟨#[]⟩, .slice none 0 0], .bool false]) (by simp [results, Tryd.results8, go_sem, q.1, q.2.1, q.2.2]) rfl ?_
      rw [HF.out]
      exact ⟨rfl, below_three B2.out (Nat.le_refl _) _ _ _⟩
    | true =>
      cases hn : tokL n.data.toList with
      | false =>
        rw [hn] at TN
        clear hok hn
        go_wp2_with (first | (go_at_call 26; refine (TN.out _).mono ?_; rintro e w' ⟨rfl, hw⟩; rw [hw]; clear hw w' TN))
        have q := three_cells (set_three H2.out (.string ⟨#[]⟩) (.string ⟨#[]⟩) (.slice none 0 0))
        refine bodyPost_ret (v := .tuple #[.agg #[.string ⟨#[]⟩, .string ⟨#[]⟩, .slice none 0 0], .bool false]) (by simp [results, Tryd.results8, go_sem, q.1, q.2.1, q.2.2]) rfl ?_
        rw [HF.out]
        exact ⟨rfl, below_three B2.out (Nat.le_refl _) _ _ _⟩
      | true =>
        have hv : tokL v.data.toList = false := by
          cases hv : tokL v.data.toList with
          | false => rfl
          | true => exact absurd ⟨rfl, hn, hv⟩ hok
        rw [hn] at TN
        rw [hv] at TV
        clear hok hn hv
        go_wp2_with (first | (go_at_call 26; refine (TN.out _).mono ?_; rintro e w' ⟨rfl, hw⟩; rw [hw]; clear hw w' TN) | (go_at_call 26; refine (TV.out _).mono ?_; rintro e w' ⟨rfl, hw⟩; rw [hw]; clear hw w' TV))
        have q := three_cells (set_three H2.out (.string ⟨#[]⟩) (.string ⟨#[]⟩) (.slice none 0 0))
        refine bodyPost_ret (v := .tuple #[.agg #[.string ⟨#[]⟩, .string ⟨#[]⟩, .slice none 0 0], .bool false]) (by simp [results, Tryd.results8, go_sem, q.1, q.2.1, q.2.2]) rfl ?_
        rw [HF.out]
        exact ⟨rfl, below_three B2.out (Nat.le_refl _) _ _ _⟩
end Go.Proofs.YtjleadlecdcdeaaDoor

/-
  The laws' own small functions: a mark's text; two slices of texts compared, marked, looked at again.
-/
namespace Go.Proofs.YtjleadlecdcdeaaDoor
set_option linter.unusedVariables false
open Go.RowKit

def mtF : Nat → Nat → List UInt8 → List UInt8
  | 0, _, acc => acc
  | f + 1, k, acc => if k = 0 then acc else mtF f (k / 10) (UInt8.ofNat (48 + k % 10) :: acc)
def mtL (k : Nat) : List UInt8 := if k = 0 then [109, 48] else 109 :: mtF k k []
def mt (k : Nat) : ByteArray := ⟨(mtL k).toArray⟩

theorem mtF_step (f j : Nat) (acc : List UInt8) (hj : 0 < j) (hf : j ≤ f) : ∃ g, j / 10 ≤ g ∧ mtF f j acc = mtF g (j / 10) (UInt8.ofNat (48 + j % 10) :: acc) := by
  cases f with
  | zero => omega
  | succ f => exact ⟨f, by omega, by rw [mtF, if_neg (by omega)]⟩
theorem mtF_end (f : Nat) (acc : List UInt8) : mtF f 0 acc = acc := by
  cases f <;> simp [mtF]

set_option maxRecDepth 100000 in
set_option maxHeartbeats 400000 in
theorem markText_any (k : Nat) (w : World) (hk : k ≤ 1000000000000) :
    Calls Tryd.prog 48 #[.int .i64 k] w fun e w' => e = .returned (.string (mt k)) ∧ Below w.heap.size w w' := by
  by_cases h0 : k = 0
  · subst h0
    go_enter Tryd.func48, Tryd.ntmps48
    go_wp2
    go_ret
    exact ⟨rfl, Below.refl _ _⟩
  · have hpos : 0 < k := by omega
    have HV : Hid (mt k = ⟨(109 :: mtF k k []).toArray⟩) := Lib.hid (by unfold mt mtL; rw [if_neg h0])
    clear h0
    go_enter Tryd.func48, Tryd.ntmps48
    go_wp2
    go_loopw [0, 3] (fun i o wr => ∃ (j f : Nat) (acc : List UInt8), acc.length + j ≤ k ∧ j ≤ f ∧ i = .int .i64 j ∧ o = .string ⟨acc.toArray⟩ ∧ Hid (mtF f j acc = mtF k k []) ∧ Below w.heap.size w wr) (fun i _ _ => (intOf i).toNat)
    case atStart => exact ⟨k, k, [], by simp, Nat.le_refl _, rfl, rfl, Lib.hid rfl, Below.refl _ _⟩
    case round =>
      obtain ⟨j, f, acc, hj, hf, rfl, rfl, hr, hB⟩ := hrel
      by_cases hj0 : 0 < j
      · obtain ⟨g, hg, hstep⟩ := mtF_step f j acc hj0 hf
        rw [hr.out] at hstep
        have HSTEP := Lib.hid hstep.symm
        clear hstep
        have hbv : bv (UInt8.ofNat (48 + j % 10)) = .int .u8 (48 + (j : Int) % 10) := by
          unfold bv
          congr 1
          rw [UInt8.toNat_ofNat', Nat.mod_eq_of_lt (by omega)]
          omega
        have hbuf : Buf (wr.alloc (.cells #[.int .u8 (48 + (j : Int) % 10)] 5)) wr.heap.size 5 [UInt8.ofNat (48 + j % 10)] := by
          rw [← hbv]
          exact ⟨_, 0, 0, heap_alloc_new _ _, .inr (Nat.le_refl _), fun j hj => by
            have : j = 0 := by simpa using hj
            subst this; rfl⟩
        have hback := hbuf.back (P := Tryd.prog) 22 9 5 1 1 rfl Tryd.underlying22 Tryd.underlying5 Tryd.underlying9
        generalize hd : UInt8.ofNat (48 + j % 10) = d at hback
        rw [hd] at HSTEP
        clear hbv hbuf hd
        have hdec := Nat.div_lt_self hj0 (by decide : 1 < 10)
        go_wp2
        go_roundw
        case rel =>
          exact ⟨j / 10, g, d :: acc, by simp; omega, hg, by go_num, by congr 1, HSTEP, hB.alloc hB.size _⟩
        case measure => simp [intOf]; omega
      · obtain rfl : j = 0 := by omega
        rw [mtF_end] at hr
        have HR := Lib.hid hr.out
        clear hr
        go_wp2
        go_ret
        exact ⟨by rw [HV.out, ← HR.out]; rfl, hB⟩
end Go.Proofs.YtjleadlecdcdeaaDoor

/-
  A slice of Param marked.
-/
namespace Go.Proofs.YtjleadlecdcdeaaDoor
set_option linter.unusedVariables false
open Go.RowKit

def prMarks (k : Nat) : Nat → List Pr
  | 0 => []
  | n + 1 => ⟨mtL k, mtL (k + 1)⟩ :: prMarks (k + 2) n
theorem prMarks_len : ∀ (n k : Nat), (prMarks k n).length = n
  | 0, _ => rfl
  | n + 1, k => by simp [prMarks, prMarks_len n]
theorem prMarks_snoc : ∀ (n k : Nat), prMarks k (n + 1) = prMarks k n ++ [⟨mtL (k + 2 * n), mtL (k + 2 * n + 1)⟩]
  | 0, k => rfl
  | n + 1, k => by
    rw [prMarks, prMarks_snoc n (k + 2), prMarks, List.cons_append, show k + 2 + 2 * n = k + 2 * (n + 1) by omega]
theorem prMarks_at : ∀ (n k j : Nat) (h : j < n), (prMarks k n)[j]? = some ⟨mtL (k + 2 * j), mtL (k + 2 * j + 1)⟩
  | 0, _, _, h => by omega
  | n + 1, k, 0, _ => rfl
  | n + 1, k, j + 1, h => by
    rw [prMarks, List.getElem?_cons_succ, prMarks_at n (k + 2) j (by omega), show k + 2 + 2 * j = k + 2 * (j + 1) by omega]
/-- The first j marked. -/
def prMarked (l : List Pr) (k j : Nat) : List Pr := prMarks k j ++ l.drop j
theorem prMarked_len (l : List Pr) (k j : Nat) (h : j ≤ l.length) : (prMarked l k j).length = l.length := by
  simp [prMarked, prMarks_len]; omega
theorem prMarked_set (l : List Pr) (k j : Nat) (h : j < l.length) :
    ((prCells (prMarked l k j)).set (j * 2) (.string (mt (k + 2 * j)))).set (j * 2 + 1) (.string (mt (k + 2 * j + 1))) = prCells (prMarked l k (j + 1)) := by
  have hl : (prCells (prMarks k j)).length = j * 2 := by rw [prCells_len, prMarks_len]
  have ht : prCells (l.drop j) = .string (mkB l[j].name) :: .string (mkB l[j].value) :: prCells (l.drop (j + 1)) := by
    rw [List.drop_eq_getElem_cons h]
    rfl
  unfold prMarked
  rw [prMarks_snoc]
  simp only [show ∀ a b : List Pr, prCells (a ++ b) = prCells a ++ prCells b from fun a b => by simp [prCells], ht]
  rw [List.set_append_right _ _ (by omega), hl, Nat.sub_self, List.set_cons_zero, List.set_append_right _ _ (by omega), hl, show j * 2 + 1 - j * 2 = 1 by omega, List.set_cons_succ, List.set_cons_zero, List.append_assoc]
  rfl

def MarksPrs (v : Value) (n k B : Nat) (w : World) (e : Ending) (w' : World) : Prop :=
  e = .returned (.int .i64 ((k + 2 * n : Nat) : Int)) ∧ w'.ownsRow B 45 2 v n (prCells (prMarks k n)) ∧ w.grownBy w' v.ownBlock

set_option maxRecDepth 100000 in
set_option maxHeartbeats 1000000 in
theorem markPrs_any (v : Value) (l : List Pr) (k B : Nat) (w : World) (hrow : w.ownsRow B 45 2 v l.length (prCells l)) (hl : l.length ≤ 10000000) (hk : k ≤ 10000000) :
    Calls Tryd.prog 34 #[v, .int .i64 k] w (MarksPrs v l.length k B w) := by
  by_cases h0 : l.length = 0
  · obtain rfl : l = [] := List.eq_nil_of_length_eq_zero h0
    obtain ⟨p, cap, rfl⟩ : ∃ p cap, v = .slice p 0 cap := row_slice hrow
    have HROW := Lib.hid hrow
    clear hrow h0
    go_enter Tryd.func34, Tryd.ntmps34
    go_wp2
    go_loop [1, 5] (fun m i => i = .int .i64 0 ∧ m = .int .i64 k) (fun _ _ => 0)
    case atStart => exact ⟨rfl, rfl⟩
    case round =>
      obtain ⟨rfl, rfl⟩ := hrel
      go_wp2
      go_ret
      exact ⟨rfl, HROW.out, grownBy_refl _ _⟩
  · obtain ⟨g, cap, rfl⟩ : ∃ g cap, v = .slice (some ⟨g, 0, none⟩) l.length cap := row_slice1 hrow (by omega)
    have HROW := Lib.hid hrow
    clear hrow h0
    go_enter Tryd.func34, Tryd.ntmps34
    go_wp2
    go_loopw [1, 5] (fun m i wr => ∃ j c : Nat, j ≤ l.length ∧ i = .int .i64 j ∧ m = .int .i64 (c : Int) ∧ Hid (c = k + 2 * j) ∧ Hid (wr.ownsRow B 45 2 (.slice (some ⟨g, 0, none⟩) l.length cap) l.length (prCells (prMarked l k j))) ∧ w.grownBy wr (some g)) (fun _ i _ => l.length - (intOf i).toNat)
    case atStart => exact ⟨0, k, Nat.zero_le _, rfl, rfl, Lib.hid rfl, HROW, grownBy_refl _ _⟩
    case round =>
      obtain ⟨j, c, hj, rfl, rfl, HC, hr, hgr⟩ := hrel
      by_cases hlt : j < l.length
      · have hlm := prMarked_len l k j hj
        have i1 : (0 : Int) ≤ (j : Int) := by omega
        have i2 : (j : Int) < (l.length : Int) := by omega
        have hset := prMarked_set l k j hlt
        rw [← HC.out] at hset
        have HSET := Lib.hid hset
        have HLEN : Hid (j * 2 + 1 < (prCells (prMarked l k j)).length) := Lib.hid (by rw [prCells_len, hlm]; omega)
        have hcb : c ≤ 40000000 := by rw [HC.out]; omega
        have HM0 : Hid (∀ W, Calls Tryd.prog 48 #[.int .i64 (c : Int)] W fun e w' => e = .returned (.string (mt c)) ∧ Below W.heap.size W w') := Lib.hid (fun W => markText_any c W (by omega))
        have HM1 : Hid (∀ W, Calls Tryd.prog 48 #[.int .i64 ((c : Int) + 1)] W fun e w' => e = .returned (.string (mt (c + 1))) ∧ Below W.heap.size W w') := Lib.hid (fun W => markText_any (c + 1) W (by omega))
        generalize hx0 : mt c = x0 at HM0 HSET
        generalize hx1 : mt (c + 1) = x1 at HM1 HSET
        obtain ⟨Cs, hCs⟩ : ∃ Cs, prCells (prMarked l k j) = Cs := ⟨_, rfl⟩
        rw [hCs] at HSET HLEN hr
        have HG0 := Lib.hid hgr
        clear hlm hset hgr hCs hx0 hx1
        have HR0 := Lib.hid hr.out
        clear hr
        have hc0 := HR0.out.cellAt (j * 2) (by have := HLEN.out; omega)
        rw [List.getElem?_eq_getElem (by have := HLEN.out; omega)] at hc0
        have hf0 := HR0.out.frozenAt (j * 2)
        clear hc0 hf0
        go_wp2_with fail
        refine (HM0.out _).mono ?_
        rintro e w0 ⟨rfl, hB0⟩
        have hr0 := row_lat HR0.out hB0
        have hc0 := hr0.cellAt (j * 2) (by (try simp only [List.length_set]); have := HLEN.out; omega)
        rw [List.getElem?_eq_getElem (by (try simp only [List.length_set]); have := HLEN.out; omega)] at hc0
        have hf0 := hr0.frozenAt (j * 2)
        have HS0 := Lib.hid (hr0.stored (j * 2) (.string x0)).1
        have HG1 := Lib.hid (grownBy_set (grownBy_below HG0.out hB0) (j * 2) (.string x0))
        clear hr0 hB0
        go_wp2_with fail
        refine (HM1.out _).mono ?_
        rintro e w1 ⟨rfl, hB1⟩
        have hr1 := row_lat HS0.out hB1
        have hc1 := hr1.cellAt (j * 2 + 1) (by (try simp only [List.length_set]); have := HLEN.out; omega)
        rw [List.getElem?_eq_getElem (by (try simp only [List.length_set]); have := HLEN.out; omega)] at hc1
        have hf1 := hr1.frozenAt (j * 2 + 1)
        have HS1 := Lib.hid (hr1.stored (j * 2 + 1) (.string x1)).1
        have HG2 := Lib.hid (grownBy_set (grownBy_below HG1.out hB1) (j * 2 + 1) (.string x1))
        clear hr1 hB1
        go_wp2_with fail
        go_roundw
        case rel =>
          refine ⟨j + 1, c + 2, by omega, by go_num, by go_num, Lib.hid (by rw [HC.out]; omega), Lib.hid ?_, HG2.out⟩
          have h := HS1.out
          rw [HSET.out] at h
          exact h
        case measure => simp [intOf]; omega
      · obtain rfl : j = l.length := by omega
        have he : prMarked l k l.length = prMarks k l.length := by simp [prMarked]
        rw [he] at hr
        go_wp2
        go_ret
        exact ⟨by rw [← HC.out] <;> rfl, hr.out, hgr⟩

end Go.Proofs.YtjleadlecdcdeaaDoor

/-
  Marked Param are looked at again.
-/
namespace Go.Proofs.YtjleadlecdcdeaaDoor
set_option linter.unusedVariables false
open Go.RowKit

set_option maxRecDepth 100000 in
set_option maxHeartbeats 1000000 in
/-- Marked ones are found so. -/
theorem heldPrs_yes (v : Value) (n k : Nat) (w : World) (hv : PrsAt w v (prMarks k n)) (hl : n ≤ 10000000) (hk : k ≤ 10000000) :
    Calls Tryd.prog 35 #[v, .int .i64 k] w fun e w' => e = .returned (.int .i64 ((k + 2 * n : Nat) : Int)) ∧ Below w.heap.size w w' := by
  by_cases h0 : n = 0
  · subst h0
    obtain ⟨p, cap, rfl⟩ : ∃ p cap, v = .slice p 0 cap := by
      rcases hv with ⟨_, h⟩ | ⟨g, off, cap, h, _⟩
      · exact h
      · exact ⟨_, _, h⟩
    clear hv
    go_enter Tryd.func35, Tryd.ntmps35
    go_wp2
    go_loop [1, 5] (fun m i => i = .int .i64 0 ∧ m = .int .i64 k) (fun _ _ => 0)
    case atStart => exact ⟨rfl, rfl⟩
    case round =>
      obtain ⟨rfl, rfl⟩ := hrel
      go_wp2
      go_ret
      exact ⟨rfl, Below.refl _ _⟩
  · rcases hv with ⟨h, _⟩ | ⟨g, off, cap, rfl, hg, hc⟩
    · have := congrArg List.length h
      simp [prMarks_len] at this
      exact absurd this h0
    have hc2 : ∀ j, j < n → w.cell? ⟨g, off + j * 2, none⟩ = some (.string (mt (k + 2 * j))) ∧ w.cell? ⟨g, off + j * 2 + 1, none⟩ = some (.string (mt (k + 2 * j + 1))) := fun j hj => by
      have h1 := hc j (by rw [prMarks_len]; exact hj)
      have h2 := prMarks_at n k j hj
      rw [List.getElem?_eq_getElem (by rw [prMarks_len]; exact hj)] at h2
      rw [Option.some.inj h2] at h1
      exact h1
    rw [prMarks_len]
    have HC := Lib.hid hc2
    clear hc hc2 h0
    go_enter Tryd.func35, Tryd.ntmps35
    go_wp2
    go_loopw [1, 5] (fun m i wr => ∃ j c : Nat, j ≤ n ∧ i = .int .i64 j ∧ m = .int .i64 (c : Int) ∧ Hid (c = k + 2 * j) ∧ Below w.heap.size w wr) (fun _ i _ => n - (intOf i).toNat)
    case atStart => exact ⟨0, k, Nat.zero_le _, rfl, rfl, Lib.hid rfl, Below.refl _ _⟩
    case round =>
      obtain ⟨j, c, hj, rfl, rfl, HE, hB⟩ := hrel
      by_cases hlt : j < n
      · obtain ⟨x1, x2⟩ := HC.out j hlt
        rw [← HE.out, ← hB.cell (p := ⟨g, off + j * 2, none⟩) hg] at x1
        rw [← HE.out, ← hB.cell (p := ⟨g, off + j * 2 + 1, none⟩) hg] at x2
        have hgr : g < wr.heap.size := Nat.lt_of_lt_of_le hg hB.size
        have hi1 : (0 : Int) ≤ (j : Int) := by omega
        have hi2 : (j : Int) < (n : Int) := by omega
        have hcb : c ≤ 40000000 := by rw [HE.out]; omega
        have HM0 : Hid (∀ W, Calls Tryd.prog 48 #[.int .i64 (c : Int)] W fun e w' => e = .returned (.string (mt c)) ∧ Below W.heap.size W w') := Lib.hid (fun W => markText_any c W (by omega))
        have HM1 : Hid (∀ W, Calls Tryd.prog 48 #[.int .i64 ((c : Int) + 1)] W fun e w' => e = .returned (.string (mt (c + 1))) ∧ Below W.heap.size W w') := Lib.hid (fun W => markText_any (c + 1) W (by omega))
        generalize hx0 : mt c = z0 at HM0 x1
        generalize hx1 : mt (c + 1) = z1 at HM1 x2
        have HB0 := Lib.hid hB
        clear hB hx0 hx1
        go_wp2_with fail
        go_region_held3 (fun w' => w'.cell? ⟨g, off + j * 2, none⟩ = some (.string z0) ∧ w'.cell? ⟨g, off + j * 2 + 1, none⟩ = some (.string z1)) (first | go_keep | exact ⟨(hB1.cell (p := ⟨g, off + j * 2, none⟩) (by assumption)).trans x1, (hB1.cell (p := ⟨g, off + j * 2 + 1, none⟩) (by assumption)).trans x2⟩) (first | (go_at_call 48; refine (HM0.out _).mono ?_; rintro e w1 ⟨rfl, hB1⟩))
        have HB1 := Lib.hid (HB0.out.trans ((Below.refl _ wr).drew.trans (hB1.mono HB0.out.size)))
        have y0_1 : w1.cell? ⟨g, off + j * 2 + 1, none⟩ = some (.string z1) := (hB1.cell (p := ⟨g, off + j * 2 + 1, none⟩) hgr).trans x2
        have hgr1 : g < w1.heap.size := Nat.lt_of_lt_of_le hgr hB1.size
        clear hB1 HM0 x1 x2 hgr
        go_wp2_with fail
        go_region_held3 (fun w' => w'.cell? ⟨g, off + j * 2 + 1, none⟩ = some (.string z1)) (first | go_keep | exact (hB1.cell (p := ⟨g, off + j * 2 + 1, none⟩) (by assumption)).trans y0_1) (first | (go_at_call 48; refine (HM1.out _).mono ?_; rintro e w2 ⟨rfl, hB1⟩))
        have HB2 := Lib.hid (HB1.out.trans ((Below.refl _ w1).drew.trans (hB1.mono HB1.out.size)))
        have hgr2 : g < w2.heap.size := Nat.lt_of_lt_of_le hgr1 hB1.size
        clear hB1 HM1 y0_1 hgr1
        go_wp2_with fail
        go_roundw
        case rel => exact ⟨j + 1, c + 2, by omega, by go_num, by go_num, Lib.hid (by rw [HE.out]; omega), HB2.out⟩
        case measure => simp [intOf]; omega
      · obtain rfl : j = n := by omega
        go_wp2
        go_ret
        exact ⟨by rw [← HE.out] <;> rfl, hB⟩
end Go.Proofs.YtjleadlecdcdeaaDoor

/-
  Kinds: marked, and held to the marks.
-/
namespace Go.Proofs.YtjleadlecdcdeaaDoor
set_option linter.unusedVariables false
open Go.RowKit

set_option maxRecDepth 100000 in
set_option maxHeartbeats 1000000 in
theorem markKd_any (T U : ByteArray) (v : Value) (l : List Pr) (k B : Nat) (w : World) (hrow : w.ownsRow B 45 2 v l.length (prCells l)) (hl : l.length ≤ 10000000) (hk : k ≤ 10000000) :
    Calls Tryd.prog 15 #[.agg #[.string T, .string U, v], .int .i64 k] w (MarksPrs v l.length k B w) := by
  obtain ⟨p, cap, rfl⟩ := row_slice hrow
  have hr2 := hrow.alloc (.cells #[.string T, .string U, .slice p l.length cap] 27)
  have MK := Lib.hid (markPrs_any _ l k B _ hr2 hl hk)
  have GG := Lib.hid (World.grownBy_alloc w (.cells #[.string T, .string U, .slice p l.length cap] 27) (Value.slice p l.length cap).ownBlock)
  clear hrow hr2 hl hk
  go_enter Tryd.func15, Tryd.ntmps15
  go_wp2_with fail
  refine MK.out.mono ?_
  rintro e w1 ⟨rfl, hr, hg⟩
  go_wp2_with fail
  go_ret
  exact ⟨rfl, hr, grownBy_trans GG.out hg⟩

set_option maxRecDepth 100000 in
set_option maxHeartbeats 1000000 in
theorem heldKd_yes (T U : ByteArray) (v : Value) (n k : Nat) (w : World) (hv : PrsAt w v (prMarks k n)) (hl : n ≤ 10000000) (hk : k ≤ 10000000) :
    Calls Tryd.prog 16 #[.agg #[.string T, .string U, v], .int .i64 k] w fun e w' => e = .returned (.int .i64 ((k + 2 * n : Nat) : Int)) ∧ Below w.heap.size w w' := by
  obtain ⟨p, cap, hs⟩ := hv.slice
  rw [prMarks_len] at hs
  subst hs
  have BB : Below w.heap.size w (w.alloc (.cells #[.string T, .string U, .slice p n cap] 27)) := (Below.refl _ _).alloc (Nat.le_refl _) _
  have HK := Lib.hid (heldPrs_yes _ n k _ (hv.later BB (Nat.le_refl _)) hl hk)
  have B0 := Lib.hid BB
  obtain ⟨Q, hQ⟩ : ∃ Q : Int, ((k + 2 * n : Nat) : Int) = Q := ⟨_, rfl⟩
  rw [hQ] at HK ⊢
  have g1 : decide (Q < 0) = false := by simp; omega
  clear hv BB hl hk hQ
  go_enter Tryd.func16, Tryd.ntmps16
  go_wp2_with fail
  refine HK.out.mono ?_
  rintro e w1 ⟨rfl, hB1⟩
  go_wp2_with fail
  go_ret
  exact ⟨rfl, B0.out.trans (hB1.mono B0.out.size)⟩
end Go.Proofs.YtjleadlecdcdeaaDoor

/-
  Param: the walks of the laws' eqParam, eqParamS where they are equal.
-/
namespace Go.Proofs.YtjleadlecdcdeaaDoor
set_option linter.unusedVariables false
open Go.RowKit

set_option maxRecDepth 100000 in
set_option maxHeartbeats 400000 in
theorem eqPr_yes (s0 s1 : ByteArray) (w : World) :
    Calls Tryd.prog 47 #[.agg #[.string s0, .string s1], .agg #[.string s0, .string s1]] w fun e w' => e = .returned (.bool true) ∧ Below w.heap.size w w' := by
  go_enter Tryd.func47, Tryd.ntmps47
  go_wp2_with fail
  go_ret
  exact ⟨rfl, ((Below.refl _ _).alloc (Nat.le_refl _) _).alloc (by simp) _⟩

set_option maxRecDepth 100000 in
set_option maxHeartbeats 1000000 in
theorem eqPrs_yes (va vb : Value) (l : List Pr) (w : World) (ha : PrsAt w va l) (hb : PrsAt w vb l) (hl : l.length ≤ 4294967296) :
    Calls Tryd.prog 33 #[va, vb] w fun e w' => e = .returned (.bool true) ∧ Below w.heap.size w w' := by
  by_cases h0 : l.length = 0
  · obtain rfl : l = [] := List.eq_nil_of_length_eq_zero h0
    obtain ⟨p, cap, rfl⟩ : ∃ p cap, va = .slice p 0 cap := by
      rcases ha with ⟨_, h⟩ | ⟨g, off, cap, h, _⟩
      · exact h
      · exact ⟨_, _, h⟩
    obtain ⟨q, cbp, rfl⟩ : ∃ p cap, vb = .slice p 0 cap := by
      rcases hb with ⟨_, h⟩ | ⟨g, off, cap, h, _⟩
      · exact h
      · exact ⟨_, _, h⟩
    clear ha hb h0
    go_enter Tryd.func33, Tryd.ntmps33
    go_wp2
    go_loop [5] (fun i => i = .int .i64 0) (fun _ => 0)
    case atStart => rfl
    case round =>
      obtain rfl := hrel
      go_wp2
      go_ret
      exact ⟨rfl, Below.refl _ _⟩
  · rcases ha with ⟨rfl, _⟩ | ⟨ga, oa, ca, rfl, hga, hca⟩
    · exact absurd rfl h0
    rcases hb with ⟨rfl, _⟩ | ⟨gb, ob, cb, rfl, hgb, hcb⟩
    · exact absurd rfl h0
    have HCA := Lib.hid hca
    have HCB := Lib.hid hcb
    have EE := Lib.hid eqPr_yes
    clear hca hcb
    go_enter Tryd.func33, Tryd.ntmps33
    go_wp2
    go_loopw [5] (fun i wr => ∃ k : Nat, k ≤ l.length ∧ i = .int .i64 k ∧ Below w.heap.size w wr) (fun i _ => l.length - (intOf i).toNat)
    case atStart => exact ⟨0, Nat.zero_le _, rfl, Below.refl _ _⟩
    case round =>
      obtain ⟨k, hk, rfl, hq⟩ := hrel
      by_cases hlt : k < l.length
      · obtain ⟨x1, x2⟩ := HCA.out k hlt
        obtain ⟨y1, y2⟩ := HCB.out k hlt
        rw [← hq.cell (p := ⟨ga, oa + k * 2, none⟩) hga] at x1
        rw [← hq.cell (p := ⟨gb, ob + k * 2, none⟩) hgb] at y1
        rw [← hq.cell (p := ⟨ga, oa + k * 2 + 1, none⟩) hga] at x2
        rw [← hq.cell (p := ⟨gb, ob + k * 2 + 1, none⟩) hgb] at y2
        have i1 : (0 : Int) ≤ (k : Int) := by omega
        have i2 : (k : Int) < (l.length : Int) := by omega
        generalize mkB l[k].name = s0 at x1 y1
        generalize mkB l[k].value = s1 at x2 y2
        have HQ := Lib.hid hq
        clear hq
        have hgaw : ga < wr.heap.size := by have := HQ.out.size; omega
        have hgbw : gb < wr.heap.size := by have := HQ.out.size; omega
        go_wp2_with fail
        go_region_held3 (fun w' => w'.cell? ⟨ga, oa + k * 2, none⟩ = some (.string s0) ∧ w'.cell? ⟨ga, oa + k * 2 + 1, none⟩ = some (.string s1) ∧ w'.cell? ⟨gb, ob + k * 2, none⟩ = some (.string s0) ∧ w'.cell? ⟨gb, ob + k * 2 + 1, none⟩ = some (.string s1)) (first | go_keep | exact ⟨(hB1.cell (p := ⟨ga, oa + k * 2, none⟩) hgaw).trans x1, (hB1.cell (p := ⟨ga, oa + k * 2 + 1, none⟩) hgaw).trans x2, (hB1.cell (p := ⟨gb, ob + k * 2, none⟩) hgbw).trans y1, (hB1.cell (p := ⟨gb, ob + k * 2 + 1, none⟩) hgbw).trans y2⟩) (first | (go_at_call 47; refine (EE.out _ _ _).mono ?_; rintro e w1 ⟨rfl, hB1⟩))
        have HQ1 := Lib.hid ((HQ.out.drew).trans (hB1.mono HQ.out.size))
        clear hB1
        go_wp2_with fail
        go_roundw
        case rel => exact ⟨k + 1, by omega, by go_num, HQ1.out⟩
        case measure => simp [intOf]; omega
      · obtain rfl : k = l.length := by omega
        go_wp2_with fail
        go_ret
        exact ⟨rfl, hq⟩
end Go.Proofs.YtjleadlecdcdeaaDoor

/-
  Kinds: the walk of the laws' eqKind where they are alike.
-/
namespace Go.Proofs.YtjleadlecdcdeaaDoor
set_option linter.unusedVariables false
open Go.RowKit

set_option maxRecDepth 100000 in
set_option maxHeartbeats 1000000 in
theorem eqKd_yes (s0 s1 : ByteArray) (va vb : Value) (l : List Pr) (w : World) (ha : PrsAt w va l) (hb : PrsAt w vb l) (hl : l.length ≤ 4294967296) :
    Calls Tryd.prog 14 #[.agg #[.string s0, .string s1, va], .agg #[.string s0, .string s1, vb]] w fun e w' => e = .returned (.bool true) ∧ Below w.heap.size w w' := by
  obtain ⟨pa, ca, rfl⟩ := ha.slice
  obtain ⟨pb, cb, rfl⟩ := hb.slice
  have B1 : Below w.heap.size w ((w.alloc (.cells #[.string s0, .string s1, .slice pa l.length ca] 27)).alloc (.cells #[.string s0, .string s1, .slice pb l.length cb] 27)) := ((Below.refl _ _).alloc (Nat.le_refl _) _).alloc (by simp) _
  have BH := Lib.hid B1
  have EE := Lib.hid (eqPrs_yes _ _ l _ (ha.later B1 (Nat.le_refl _)) (hb.later B1 (Nat.le_refl _)) hl)
  clear ha hb B1
  go_enter Tryd.func14, Tryd.ntmps14
  go_wp2_with fail
  refine EE.out.mono ?_
  rintro e w1 ⟨rfl, hB1⟩
  go_wp2_with fail
  go_ret
  exact ⟨rfl, BH.out.trans (hB1.mono BH.out.size)⟩
end Go.Proofs.YtjleadlecdcdeaaDoor

/-
  The walk of impl.Find: the first index of a sublist.
-/
namespace Go.Proofs.YtjleadlecdcdeaaDoor
set_option linter.unusedVariables false
open Go.RowKit

/-- The library's variable holds some number. -/
def MaxLenAt (w : World) : Prop := ∃ m : Int, w.cell? ⟨0, 0, none⟩ = some (.int .i64 m)
theorem maxLenAt_of_shaped {w : World} (h : w.ShapedOpen Tryd.prog) : MaxLenAt w :=
  Go.Proofs.cell_of_shapedOpen_int (zero := #[.int .i64 0]) (t := 3) h (of_decide_eq_true (by kernel_rfl)) (by kernel_rfl) rfl (by kernel_rfl) (by kernel_rfl) Tryd.underlying3
theorem MaxLenAt.lt {w : World} (h : MaxLenAt w) : 0 < w.heap.size := by
  obtain ⟨m, hm⟩ := h
  exact block_lt_of_cell hm
theorem MaxLenAt.below {B : Nat} {w w' : World} (h : MaxLenAt w) (hb : Below B w w') (hB : 0 < B) : MaxLenAt w' := by
  obtain ⟨m, hm⟩ := h
  exact ⟨m, (hb.cell (p := ⟨0, 0, none⟩) hB).trans hm⟩
theorem MaxLenAt.after {w w' : World} (h : MaxLenAt w) (hb : Below w.heap.size w w') : MaxLenAt w' := h.below hb h.lt

set_option maxHeartbeats 400000 in
theorem implFind_any (s t : ByteArray) (w : World) (hm : MaxLenAt w) (hs : s.size < 4294967281) :
    Calls Tryd.prog 51 #[.string s, .string t] w fun e w' => e = .returned (.int .i64 (Lib.index s.data.toList t.data.toList)) ∧ w' = w := by
  obtain ⟨m, hm⟩ := hm
  have HM := Lib.hid hm
  clear hm
  go_enter Tryd.func51, Tryd.ntmps51
  go_wp2_with (go_at_call 66; refine (Tryd.strings_Index _ _ m _ hs HM.out).mono ?_; rintro e w' ⟨rfl, rfl⟩)
  go_ret
  exact ⟨rfl, rfl⟩

end Go.Proofs.YtjleadlecdcdeaaDoor

/-
  Kinds: the exact law on ReadKind; what is asked of impl's (KindIs).
-/
namespace Go.Proofs.YtjleadlecdcdeaaDoor
set_option linter.unusedVariables false
open Go.RowKit

/-- What is asked of impl's ReadKind. -/
def KindIs : Prop := ∀ (s : ByteArray) (w : World), s.size ≤ 1048576 → MaxLenAt w → Calls Tryd.prog 7 #[.string s] w (GivesKd (kindOf s.data.toList) w)
/-- A kind that is told, in one form. -/
def kdT (o : Option Kd) : ByteArray := match o with | none => ⟨#[]⟩ | some k => mkB k.type
def kdU (o : Option Kd) : ByteArray := match o with | none => ⟨#[]⟩ | some k => mkB k.sub
def kdL (o : Option Kd) : List Pr := match o with | none => [] | some k => k.params
theorem givesKd_one {o : Option Kd} {w : World} {e : Ending} {w' : World} (h : GivesKd o w e w') : ∃ v, e = .returned (.tuple #[.agg #[.string (kdT o), .string (kdU o), v], .bool o.isSome]) ∧ w'.ownsRow w.heap.size 45 2 v (kdL o).length (prCells (kdL o)) ∧ Below w.heap.size w w' := by
  cases o with
  | none => exact ⟨.slice none 0 0, h.1, World.ownsRow_nil _ _ _ _, h.2⟩
  | some k => exact h
theorem paramsA_len : ∀ (L : List (List UInt8)) (acc l : List Pr), paramsA acc L = some l → l.length ≤ acc.length + L.length
  | [], acc, l, h => by injection h with h; subst h; simp
  | x :: r, acc, l, h => by
    rw [paramsA_cons] at h
    split at h
    · have := paramsA_len r acc l h
      simp; omega
    · cases hp : paramOf x with
      | none => rw [hp] at h; cases h
      | some p =>
        rw [hp] at h
        have := paramsA_len r (acc ++ [p]) l h
        simp at this ⊢; omega
theorem kdL_len (s : ByteArray) : (kdL (kindOf s.data.toList)).length ≤ s.size + 1 := by
  obtain ⟨hsl, hsn⟩ := split_len s 59
  unfold kindOf semis
  rw [show mkB s.data.toList = s from rfl]
  cases hL : splitAll s 59 with
  | nil => exact Nat.zero_le _
  | cons x r =>
    rw [hL] at hsl
    simp only [List.map_cons, List.length_cons] at hsl ⊢
    split
    · cases hp : paramsA [] (r.map (fun b => b.data.toList)) with
      | none => exact Nat.zero_le _
      | some l =>
        have := paramsA_len _ _ _ hp
        simp [kdL] at this ⊢
        omega
    · exact Nat.zero_le _

set_option maxRecDepth 100000 in
set_option maxHeartbeats 1000000 in
theorem exactReadKind_walk (IK : KindIs) (s : ByteArray) (w : World) (hs : s.size ≤ maxLen) (hsh : w.ShapedOpen Tryd.prog) :
    Calls Tryd.prog 4 #[.string s] w fun e w' => e = .returned (.bool true) ∧ Below w.heap.size w w' := by
  unfold maxLen at hs
  have hM := maxLenAt_of_shaped hsh
  clear hsh
  by_cases h1 : s.size ≤ 1048576
  · have HM := Lib.hid (fun W (h : Below w.heap.size w W) => hM.after h)
    have H1 := Lib.hid (fun w => (specReadKind_any s w h1).mono (fun e w' h => givesKd_one h))
    have H2 := Lib.hid (fun W (h : Below w.heap.size w W) => (IK s W h1 (HM.out _ h)).mono (fun e w' h => givesKd_one h))
    have hn := kdL_len s
    generalize kindOf s.data.toList = O at *
    generalize kdT O = T at *
    generalize kdU O = U at *
    generalize O.isSome = ok at *
    generalize kdL O = l at *
    have hn1 : l.length ≤ 10000000 := by omega
    have hn2 : l.length ≤ 4294967296 := by omega
    have gk : (ok != ok) = false := by simp
    clear hM hn IK
    go_enter Tryd.func4, Tryd.ntmps4
    go_wp2_with fail
    refine (H1.out _).mono ?_
    rintro e w1 ⟨va, rfl, hra, hB1⟩
    obtain ⟨pa, ca, rfl⟩ := row_slice hra
    have D1 : Below w1.heap.size w1 (w1.alloc (.cells #[.string T, .string U, .slice pa l.length ca] 27)) := (Below.refl _ _).alloc (Nat.le_refl _) _
    have NA1 := Lib.hid (new_three w1 (.string T) (.string U) (.slice pa l.length ca) 27)
    have RA1 := Lib.hid (row_lat hra D1)
    have B1 := Lib.hid (hB1.trans (D1.mono hB1.size))
    have hb1 := hB1.size
    clear hra hB1 D1
    go_wp2_with fail
    obtain ⟨v1, hv1⟩ : ∃ x, w1.alloc (.cells #[.string T, .string U, .slice pa l.length ca] 27) = x := ⟨_, rfl⟩
    rw [hv1] at NA1 RA1 B1 ⊢
    obtain ⟨A, hA⟩ : ∃ A, w1.heap.size = A := ⟨_, rfl⟩
    rw [hA] at NA1 ⊢
    clear hv1 hA hb1
    refine (H2.out _ B1.out).mono ?_
    rintro e w2 ⟨vb, rfl, hrb, hB2⟩
    obtain ⟨pb, cb, rfl⟩ := row_slice hrb
    have D2 : Below w2.heap.size w2 (w2.alloc (.cells #[.string T, .string U, .slice pb l.length cb] 27)) := (Below.refl _ _).alloc (Nat.le_refl _) _
    have NB2 := Lib.hid (new_three w2 (.string T) (.string U) (.slice pb l.length cb) 27)
    have E2 := hB2.trans (D2.mono hB2.size)
    have RB2 := Lib.hid (row_lat hrb D2)
    have RA2 := Lib.hid (row_lat RA1.out E2)
    have NA2 := Lib.hid ((E2.block _ (Array.getElem?_eq_some_iff.1 NA1.out).1).trans NA1.out)
    have B2 := Lib.hid (B1.out.trans (E2.mono B1.out.size))
    have AP : Hid (∀ g, (Value.slice pb l.length cb).ownBlock = some g → (Value.slice pb l.length cb).ownBlock ≠ (Value.slice pa l.length ca).ownBlock) := Lib.hid (fun g hg hx => by
      have := (RB2.out.lt g hg).1
      have := (RA1.out.lt g (hx ▸ hg)).2
      omega)
    clear hrb hB2 D2 E2
    obtain ⟨_, _, _⟩ := three_cells NA2.out
    go_wp2_with fail
    obtain ⟨v2, hv2⟩ : ∃ x, w2.alloc (.cells #[.string T, .string U, .slice pb l.length cb] 27) = x := ⟨_, rfl⟩
    rw [hv2] at NB2 RB2 RA2 NA2 B2 ⊢
    obtain ⟨K, hK⟩ : ∃ K, w2.heap.size = K := ⟨_, rfl⟩
    rw [hK] at NB2 ⊢
    clear hv2 hK
    refine (eqKd_yes T U _ _ l v2 (prs_of_row RB2.out) (prs_of_row RA2.out) hn2).mono ?_
    rintro e w3 ⟨rfl, hB3⟩
    have RB3 := Lib.hid (row_lat RB2.out hB3)
    have RA3 := Lib.hid (row_lat RA2.out hB3)
    have NA3 := Lib.hid ((hB3.block _ (Array.getElem?_eq_some_iff.1 NA2.out).1).trans NA2.out)
    have NB3 := Lib.hid ((hB3.block _ (Array.getElem?_eq_some_iff.1 NB2.out).1).trans NB2.out)
    have B3 := Lib.hid (B2.out.trans (hB3.mono B2.out.size))
    obtain ⟨_, _, _⟩ := three_cells NB3.out
    clear hB3
    go_wp2_with fail
    refine (markKd_any T U _ l 1 v1.heap.size w3 RB3.out hn1 (by decide)).mono ?_
    rintro e w4 ⟨rfl, hr4, hg4⟩
    have RA4 : Hid (PrsAt w4 (.slice pa l.length ca) l) := Lib.hid (prs_of_row (RA3.out.kept hg4 (by
      cases hv : (Value.slice pa l.length ca).ownBlock with
      | none => exact .inl rfl
      | some g => exact .inr (fun e => AP.out g e.symm (by rw [← e, hv])))))
    have NA4 := Lib.hid (two_kept RB3.out hg4 NA3.out (by decide))
    have NB4 := Lib.hid (two_kept RB3.out hg4 NB3.out (by decide))
    have B4 : Hid (Below w.heap.size w w4) := Lib.hid (B3.out.grown hg4 B3.out.size (fun k e => Nat.le_trans B1.out.size (RB3.out.lt k e).1))
    have FB4 : Hid (PrsAt w4 (.slice pb l.length cb) (prMarks 1 l.length)) := Lib.hid (prs_of_row (by rw [prMarks_len]; exact hr4))
    clear hr4 hg4
    obtain ⟨Q, hQ⟩ : ∃ Q : Int, ((1 + 2 * l.length : Nat) : Int) = Q := ⟨_, rfl⟩
    rw [hQ]
    have HQ := Lib.hid hQ
    have g1 : decide (Q < 0) = false := by simp; omega
    have g2 : (Q != Q) = false := by simp
    obtain ⟨_, _, _⟩ := three_cells NB4.out
    clear hQ
    go_wp2_with fail
    refine (heldKd_yes T U _ l.length 1 w4 FB4.out hn1 (by decide)).mono ?_
    rintro e w5 ⟨rfl, hB5⟩
    have FA5 := Lib.hid (RA4.out.later hB5 (Nat.le_refl _))
    have FB5 := Lib.hid (FB4.out.later hB5 (Nat.le_refl _))
    have NA5 := Lib.hid ((hB5.block _ (Array.getElem?_eq_some_iff.1 NA4.out).1).trans NA4.out)
    have NB5 := Lib.hid ((hB5.block _ (Array.getElem?_eq_some_iff.1 NB4.out).1).trans NB4.out)
    have B5 := Lib.hid (B4.out.trans (hB5.mono B4.out.size))
    clear hB5
    rw [HQ.out]
    go_wp2_with fail
    refine (H2.out _ B5.out).mono ?_
    rintro e w6 ⟨vc, rfl, hrc, hB6⟩
    obtain ⟨pc, cc, rfl⟩ := row_slice hrc
    have D6 : Below w6.heap.size w6 (w6.alloc (.cells #[.string T, .string U, .slice pc l.length cc] 27)) := (Below.refl _ _).alloc (Nat.le_refl _) _
    have NC6 := Lib.hid (new_three w6 (.string T) (.string U) (.slice pc l.length cc) 27)
    have E6 := hB6.trans (D6.mono hB6.size)
    have RC6 := Lib.hid (row_lat hrc D6)
    have FA6 := Lib.hid (FA5.out.later E6 (Nat.le_refl _))
    have FB6 := Lib.hid (FB5.out.later E6 (Nat.le_refl _))
    have NA6 := Lib.hid ((E6.block _ (Array.getElem?_eq_some_iff.1 NA5.out).1).trans NA5.out)
    have NB6 := Lib.hid ((E6.block _ (Array.getElem?_eq_some_iff.1 NB5.out).1).trans NB5.out)
    have B6 := Lib.hid (B5.out.trans (E6.mono B5.out.size))
    clear hrc hB6 D6 E6
    obtain ⟨_, _, _⟩ := three_cells NA6.out
    go_wp2_with fail
    obtain ⟨v6, hv6⟩ : ∃ x, w6.alloc (.cells #[.string T, .string U, .slice pc l.length cc] 27) = x := ⟨_, rfl⟩
    rw [hv6] at NC6 RC6 FA6 FB6 NA6 NB6 B6 ⊢
    clear hv6
    refine (eqKd_yes T U _ _ l v6 (prs_of_row RC6.out) FA6.out hn2).mono ?_
    rintro e w7 ⟨rfl, hB7⟩
    have FB7 := Lib.hid (FB6.out.later hB7 (Nat.le_refl _))
    have NB7 := Lib.hid ((hB7.block _ (Array.getElem?_eq_some_iff.1 NB6.out).1).trans NB6.out)
    have B7 := Lib.hid (B6.out.trans (hB7.mono B6.out.size))
    obtain ⟨_, _, _⟩ := three_cells NB7.out
    clear hB7
    go_wp2_with fail
    refine (heldKd_yes T U _ l.length 1 w7 FB7.out hn1 (by decide)).mono ?_
    rintro e w8 ⟨rfl, hB8⟩
    have B8 := Lib.hid (B7.out.trans (hB8.mono B7.out.size))
    clear hB8
    rw [HQ.out]
    go_wp2_with fail
    go_ret
    exact ⟨rfl, B8.out⟩
  · clear hM
    go_enter Tryd.func4, Tryd.ntmps4
    go_wp2
    go_ret
    exact ⟨rfl, Below.refl _ _⟩
end Go.Proofs.YtjleadlecdcdeaaDoor
