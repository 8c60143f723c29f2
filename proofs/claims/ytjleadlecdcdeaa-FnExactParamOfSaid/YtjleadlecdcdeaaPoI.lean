/-
  Kinds: the walk of impl's ParamOf, and the exact law on it.
-/
import Derived.Test.YtjleadlecdcdeaaPoS
import Derived.Test.YtjleadlecdcdeaaAppB
namespace Go.Proofs.Ytjleadlecdcdeaa
set_option linter.unusedVariables false
open Go.RowKit

set_option maxRecDepth 100000 in
set_option maxHeartbeats 1000000 in
theorem implParamOf_any (T U : ByteArray) (v : Value) (l : List Pr) (s : ByteArray) (w : World) (hv : PrsAt w v l) (hs : s.size ≤ maxLen) (hx : ∀ f ∈ l, f.name.length ≤ maxLen) (hl : l.length ≤ 16777216) :
    Calls Try.prog 20 #[.agg #[.string T, .string U, v], .string s] w fun e w' => e = .returned (poV (paramAt s.data.toList l)) ∧ Below w.heap.size w w' := by
  obtain ⟨R, hR⟩ : ∃ R, paramAt s.data.toList l = R := ⟨_, rfl⟩
  rw [hR]
  have HR : Hid (paramAt s.data.toList (l.drop 0) = R) := Lib.hid (by rw [List.drop_zero, hR])
  obtain ⟨p, cap, rfl⟩ := hv.slice
  have HV := Lib.hid hv
  have HX := Lib.hid hx
  have HS := Lib.hid hs
  have HB := Lib.hid (new_three w (.string T) (.string U) (.slice p l.length cap) 26)
  clear hv hx hs hR
  go_enter Try.func20, Try.ntmps20
  go_wp2_with fail
  obtain ⟨wb, hwb⟩ : ∃ x, w.alloc (.cells #[.string T, .string U, .slice p l.length cap] 26) = x := ⟨_, rfl⟩
  have HB0 : Hid (Below w.heap.size w wb) := Lib.hid (by rw [← hwb]; exact (Below.refl _ _).alloc (Nat.le_refl _) _)
  rw [hwb] at HB ⊢
  clear hwb
  go_loopw [11] (fun i wr => ∃ k : Nat, k ≤ l.length ∧ i = .int .i64 k ∧ Hid (paramAt s.data.toList (l.drop k) = R) ∧ Hid (Below wb.heap.size wb wr)) (fun i _ => l.length - (intOf i).toNat)
  case atStart => exact ⟨0, Nat.zero_le _, rfl, HR, Lib.hid (Below.refl _ _)⟩
  case round =>
    obtain ⟨k, hk, rfl, HP, hB⟩ := hrel
    have BR := Lib.hid (HB0.out.trans (hB.out.mono HB0.out.size))
    by_cases hlt : k < l.length
    · have g1 : decide ((k : Int) < (l.length : Int)) = true := by simp; omega
      have i1 : (0 : Int) ≤ (k : Int) := by omega
      have i2 : (k : Int) < (l.length : Int) := by omega
      obtain ⟨g, off, hgl, hg, x1, x2⟩ : ∃ g off, p = some ⟨g, off, none⟩ ∧ g < wr.heap.size ∧ wr.cell? ⟨g, off + k * 2, none⟩ = some (.string (mkB l[k].name)) ∧ wr.cell? ⟨g, off + k * 2 + 1, none⟩ = some (.string (mkB l[k].value)) := by
        rcases HV.out.later BR.out (Nat.le_refl _) with ⟨h, _⟩ | ⟨g, o, c, h1, h2, h3⟩
        · rw [h] at hlt; simp at hlt
        · injection h1 with e1 _ _
          exact ⟨g, o, e1, h2, h3 k hlt⟩
      subst hgl
      have hP := HP.out
      rw [paramAt_drop _ _ _ hlt] at hP
      have hxn := HX.out _ (List.getElem_mem hlt)
      have SA := Lib.hid (fun w => implSame_any (mkB l[k].name) s w (by rw [mkB_size]; exact hxn) HS.out)
      rw [mkB_list] at SA
      generalize hq : sameB l[k].name s.data.toList = q at SA hP
      generalize mkB l[k].name = nm at x1 SA
      generalize hvl : mkB l[k].value = vl at x2
      have HVL := Lib.hid hvl
      clear hvl
      have HN := Lib.hid (alloc_new wr #[.string nm, .string vl] 88)
      have HW : Hid (Below wb.heap.size wb (wr.alloc (.cells #[.string nm, .string vl] 88))) := Lib.hid (hB.out.alloc hB.out.size _)
      cases q with
      | false =>
        rw [if_neg (by simp)] at hP
        have HP2 := Lib.hid hP
        clear hP HP hq hxn
        go_wp2_with (go_at_call 55; refine (SA.out _).mono ?_; rintro e w3 ⟨rfl, hB3⟩)
        have B3 := Lib.hid (HW.out.trans (hB3.mono HW.out.size))
        clear hB3
        go_roundw
        case rel => exact ⟨k + 1, by omega, by go_num, HP2, B3⟩
        case measure => simp [intOf]; omega
      | true =>
        rw [if_pos rfl] at hP
        have HF := Lib.hid hP
        clear hP HP hq hxn
        go_wp2_with (go_at_call 55; refine (SA.out _).mono ?_; rintro e w3 ⟨rfl, hB3⟩; obtain ⟨_, _⟩ := cell_of_two ((hB3.block _ (Array.getElem?_eq_some_iff.1 HN.out).1).trans HN.out); have B3 := Lib.hid (HB0.out.trans ((HW.out.trans (hB3.mono HW.out.size)).mono HB0.out.size)); clear hB3)
        go_ret2
        exact ⟨by rw [← HF.out, ← HVL.out]; rfl, B3.out⟩
    · obtain rfl : k = l.length := by omega
      have g1 : decide ((l.length : Int) < (l.length : Int)) = false := by simp
      have HF : Hid (R = none) := Lib.hid (by rw [← HP.out, List.drop_length]; rfl)
      clear HP
      go_wp2_with fail
      go_ret2
      exact ⟨by rw [HF.out]; rfl, BR.out⟩
end Go.Proofs.Ytjleadlecdcdeaa
