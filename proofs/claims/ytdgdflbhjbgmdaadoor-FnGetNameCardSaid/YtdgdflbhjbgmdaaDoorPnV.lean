/-
  Names: strings.ReplaceAll at one byte, and the walk of impl.shiftText.
-/
import Derived.Test.YtdgdflbhjbgmdaaDoorPnU
import Derived.Test.YtdgdflbhjbgmdaaDoorBsI
import Derived.Test.YtdgdflbhjbgmdaaDoorFindI
import Derived.Test.YtdgdflbhjbgmdaaDoorShelf
import Derived.Lib.ReplaceLaws
namespace Go.Proofs.YtdgdflbhjbgmdaaDoor
set_option linter.unusedVariables false
open Go.RowKit

theorem swap_none (a b : UInt8) (l : List UInt8) (h : ∀ x ∈ l, x ≠ a) : swapL a b l = l := by
  induction l with
  | nil => rfl
  | cons x l ih =>
    show swapB a b x :: swapL a b l = x :: l
    rw [ih (fun y hy => h y (List.mem_cons_of_mem _ hy))]
    unfold swapB
    rw [if_neg (h x (List.mem_cons_self ..))]
theorem swap_app (a b : UInt8) (l m : List UInt8) : swapL a b (l ++ m) = swapL a b l ++ swapL a b m := by simp [swapL]
theorem replace_one (a b : UInt8) : ∀ (k : Nat) (s : List UInt8), Lib.count s [a] = k → Lib.replaceK [a] [b] k s = swapL a b s := by
  intro k
  induction k with
  | zero =>
    intro s h
    rw [Lib.count_one] at h
    rw [swap_none a b s (fun x hx e => by
      subst e
      have := List.count_pos_iff.2 hx
      omega)]
    rfl
  | succ k ih =>
    intro s h
    obtain ⟨i, hi⟩ := Lib.index_of_count (s := s) (old := [a]) (by omega)
    have hc := Lib.count_hit (by simp) hi
    rw [Lib.replaceK_hit [a] [b] k s i hi, ih _ (by omega)]
    rw [Lib.index_one] at hi
    obtain ⟨h1, h2⟩ := Lib.indexByte_some hi
    have hlt := (List.getElem?_eq_some_iff.1 h1).1
    have hs : s = s.take i ++ [a] ++ s.drop (i + 1) := by
      rw [List.append_assoc, List.singleton_append]
      have h3 : s.drop i = a :: s.drop (i + 1) := by
        rw [List.drop_eq_getElem_cons hlt]
        rw [List.getElem?_eq_getElem hlt] at h1
        rw [Option.some.inj h1]
      rw [← h3, List.take_append_drop]
    have h4 : swapL a b (s.take i) = s.take i := swap_none a b _ (fun x hx e => by
      subst e
      obtain ⟨j, hj⟩ := List.mem_iff_getElem?.1 hx
      rw [List.getElem?_take] at hj
      split at hj
      · rename_i hlt2
        exact h2 j hlt2 hj
      · cases hj)
    conv => rhs; rw [hs, swap_app, swap_app, h4]
    rw [show swapL a b [a] = [b] by unfold swapL swapB; simp]
    rfl
theorem replaceAll_one (a b : UInt8) (hab : a ≠ b) (s : List UInt8) : Lib.replaceAll s [a] [b] = swapL a b s := by
  unfold Lib.replaceAll Lib.replace Lib.replaceNum
  have h1 : ¬ (([a] : List UInt8) == [b]) = true := by simpa using hab
  rw [if_neg h1, if_pos (.inl (by decide))]
  exact replace_one a b _ s rfl

theorem replAll_any (s : ByteArray) (a b : UInt8) (w : World) (hm : MaxLenAt w) (hs : s.size ≤ 1000000000) (hab : a ≠ b) :
    Calls Tryd.prog 40 #[.string s, .string ⟨#[a]⟩, .string ⟨#[b]⟩] w fun e w' => e = .returned (.string ⟨(swapL a b s.data.toList).toArray⟩) ∧ Below w.heap.size w w' := by
  obtain ⟨m, hm⟩ := hm
  have h1 : (⟨#[a]⟩ : ByteArray).size = 1 := rfl
  have h2 : (⟨#[b]⟩ : ByteArray).size = 1 := rfl
  have hc := Lib.countB_le ⟨#[a]⟩ (by rw [h1]; exact Nat.le_refl _) s.size s (Nat.le_refl _)
  have h := Tryd.strings_ReplaceAll s ⟨#[a]⟩ ⟨#[b]⟩ m w (by omega) hm (by rw [h1]; exact Nat.le_refl _) (by rw [h2]; omega)
  have e : Lib.replaceAll s.data.toList (⟨#[a]⟩ : ByteArray).data.toList (⟨#[b]⟩ : ByteArray).data.toList = swapL a b s.data.toList := replaceAll_one a b hab _
  rw [e] at h
  exact h

set_option maxRecDepth 100000 in
set_option maxHeartbeats 400000 in
theorem shiftText_any (v : Value) (H : List UInt8) (B : Nat) (w : World) (hm : MaxLenAt w) (hH : H.length ≤ 67108864) (hown : w.ownsRow B 5 1 v H.length (H.map bv)) :
    Calls Tryd.prog 25 #[v] w fun e w' => e = .returned (.string ⟨(flushL H).toArray⟩) ∧ Below w.heap.size w w' := by
  by_cases h0 : H = []
  · subst h0
    have hcase := rowJ_form hown
    rcases hcase with ⟨rfl, _⟩ | ⟨g, cap, rfl, _⟩
    · go_enter Tryd.func25, Tryd.ntmps25
      go_wp2_with fail
      go_ret
      exact ⟨rfl, Below.refl _ _⟩
    · go_enter Tryd.func25, Tryd.ntmps25
      go_wp2_with fail
      go_ret
      exact ⟨rfl, Below.refl _ _⟩
  · have hpos := List.length_pos_iff.2 h0
    have hback := rowJ_back (P := Tryd.prog) hown 22 9 5 Tryd.underlying22 Tryd.underlying5 Tryd.underlying9
    have hfl : flushL H = [38] ++ swapL 47 44 (b64 H) ++ [45] := by unfold flushL; rw [if_neg h0]
    have hbl := b64_len H
    have hHs : (⟨H.toArray⟩ : ByteArray).size ≤ 67108864 := by show H.toArray.size ≤ _; simpa using hH
    have hP : ∀ w, Calls Tryd.prog 41 #[.string ⟨H.toArray⟩] w fun e w' => e = .returned (.string ⟨(b64 H).toArray⟩) ∧ Below w.heap.size w w' := fun w => implPutB64_any ⟨H.toArray⟩ w hHs
    have hus : (⟨(b64 H).toArray⟩ : ByteArray).size ≤ 100000000 := by show (b64 H).toArray.size ≤ _; rw [List.size_toArray]; omega
    have hS : ∀ w, MaxLenAt w → Calls Tryd.prog 40 #[.string ⟨(b64 H).toArray⟩, .string ⟨#[47]⟩, .string ⟨#[44]⟩] w fun e w' => e = .returned (.string ⟨(swapL 47 44 (b64 H)).toArray⟩) ∧ Below w.heap.size w w' := fun w hm => replAll_any ⟨(b64 H).toArray⟩ 47 44 w hm (by omega) (by decide)
    have hul : (⟨(swapL 47 44 (b64 H)).toArray⟩ : ByteArray).size ≤ 100000000 := by show (swapL 47 44 (b64 H)).toArray.size ≤ _; rw [List.size_toArray, swapL_len]; omega
    rw [hfl]
    generalize b64 H = Bb at hP hus hS hul ⊢
    generalize swapL 47 44 Bb = C at hul hS ⊢
    generalize (⟨Bb.toArray⟩ : ByteArray) = U at hP hS hus
    generalize (⟨H.toArray⟩ : ByteArray) = HH at hP hback hHs
    have HP := Lib.hid hP
    have HS := Lib.hid hS
    have e3 : (⟨([38] ++ C ++ [45]).toArray⟩ : ByteArray) = ⟨#[38]⟩ ++ ⟨C.toArray⟩ ++ ⟨#[45]⟩ := by
      rw [show (⟨#[38]⟩ : ByteArray) = ⟨[38].toArray⟩ from rfl, show (⟨#[45]⟩ : ByteArray) = ⟨[45].toArray⟩ from rfl, ByteArray.mk_append_mk, ByteArray.mk_append_mk]
    rw [e3]
    generalize (⟨C.toArray⟩ : ByteArray) = V at HS hul ⊢
    have HM := Lib.hid hm
    clear hP hS e3 hm hfl hbl
    have hcase := rowJ_form hown
    clear hown h0
    rcases hcase with ⟨rfl, h⟩ | ⟨g, cap, rfl, _⟩
    · omega
    · have hz : ((H.length : Int) == 0) = false := by rw [beq_eq_false_iff_ne]; omega
      have z1 : (⟨#[38]⟩ : ByteArray).size = 1 := rfl
      have z2 : (⟨#[45]⟩ : ByteArray).size = 1 := rfl
      go_enter Tryd.func25, Tryd.ntmps25
      go_wp2_with fail
      refine (HP.out _).mono ?_
      rintro e w1 ⟨rfl, hB1⟩
      go_wp2_with fail
      refine (HS.out _ (HM.out.after hB1)).mono ?_
      rintro e w2 ⟨rfl, hB2⟩
      go_wp2_with fail
      go_ret
      exact ⟨rfl, hB1.trans (hB2.mono hB1.size)⟩
end Go.Proofs.YtdgdflbhjbgmdaaDoor
