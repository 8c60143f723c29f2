/-
  Kinds: plain, and the walk of spec's ParamOf.
-/
import Derived.Test.YtjleadlecdcdeaaKdA
import Derived.Test.YtjleadlecdcdeaaSameA
import Derived.Test.YtjleadlecdcdeaaThree
namespace Go.Proofs.Ytjleadlecdcdeaa
set_option linter.unusedVariables false
open Go.RowKit

def paramAt (name : List UInt8) : List Pr → Option (List UInt8)
  | [] => none
  | f :: r => if sameB f.name name then some f.value else paramAt name r
/-- What ParamOf tells. -/
def poV (b : Option (List UInt8)) : Value := match b with
  | none => .tuple #[.string ⟨#[]⟩, .bool false]
  | some x => .tuple #[.string (mkB x), .bool true]
theorem paramAt_drop (name : List UInt8) (l : List Pr) (k : Nat) (h : k < l.length) : paramAt name (l.drop k) = if sameB l[k].name name then some l[k].value else paramAt name (l.drop (k + 1)) := by
  rw [List.drop_eq_getElem_cons h, paramAt]

set_option maxRecDepth 100000 in
set_option maxHeartbeats 1000000 in
theorem specParamOf_any (T U : ByteArray) (v : Value) (l : List Pr) (s : ByteArray) (w : World) (hv : PrsAt w v l) (hs : s.size ≤ maxLen) (hx : ∀ f ∈ l, f.name.length ≤ maxLen) (hl : l.length ≤ 16777216) :
    Calls Try.prog 18 #[.agg #[.string T, .string U, v], .string s] w fun e w' => e = .returned (poV (paramAt s.data.toList l)) ∧ Below w.heap.size w w' := by
  obtain ⟨R, hR⟩ : ∃ R, paramAt s.data.toList l = R := ⟨_, rfl⟩
  rw [hR]
  have HR : Hid (paramAt s.data.toList (l.drop 0) = R) := Lib.hid (by rw [List.drop_zero, hR])
  obtain ⟨p, cap, rfl⟩ := hv.slice
  have HV := Lib.hid hv
  have HX := Lib.hid hx
  have HS := Lib.hid hs
  have HB := Lib.hid (new_three w (.string T) (.string U) (.slice p l.length cap) 26)
  clear hv hx hs hR
  go_enter Try.func18, Try.ntmps18
  go_wp2
  obtain ⟨wb, hwb⟩ : ∃ x, w.alloc (.cells #[.string T, .string U, .slice p l.length cap] 26) = x := ⟨_, rfl⟩
  have HB0 : Hid (Below w.heap.size w wb) := Lib.hid (by rw [← hwb]; exact (Below.refl _ _).alloc (Nat.le_refl _) _)
  rw [hwb] at HB ⊢
  clear hwb
  go_loopw [6] (fun i wr => ∃ k : Nat, k ≤ l.length ∧ i = .int .i64 k ∧ Hid (paramAt s.data.toList (l.drop k) = R) ∧ Hid (Below wb.heap.size wb wr)) (fun i _ => l.length - (intOf i).toNat)
  case atStart => exact ⟨0, Nat.zero_le _, rfl, HR, Lib.hid (Below.refl _ _)⟩
  case round =>
    obtain ⟨k, hk, rfl, HP, hB⟩ := hrel
    have hbox := (hB.out.block _ (Array.getElem?_eq_some_iff.1 HB.out).1).trans HB.out
    obtain ⟨_, _, hc2⟩ := three_cells hbox
    have BR := Lib.hid (HB0.out.trans (hB.out.mono HB0.out.size))
    clear hbox
    by_cases hlt : k < l.length
    · have g1 : decide ((k : Int) < (l.length : Int)) = true := by simp; omega
      have i1 : (0 : Int) ≤ (k : Int) := by omega
      have i2 : (k : Int) < (l.length : Int) := by omega
      obtain ⟨g, off, hgl, hg, x1, x2⟩ : ∃ g off, p = some ⟨g, off, none⟩ ∧ g < wr.heap.size ∧ wr.cell? ⟨g, off + k * 2, none⟩ = some (.string (mkB l[k].name)) ∧ wr.cell? ⟨g, off + k * 2 + 1, none⟩ = some (.string (mkB l[k].value)) := by
        rcases HV.out.later BR.out (Nat.le_refl _) with ⟨h, _⟩ | ⟨g, o, c, h1, h2, h3⟩
        · rw [h] at hlt; simp at hlt
        · injection h1 with e1 _ _
          exact ⟨g, o, e1, h2, h3 k hlt⟩
      subst hgl
      have hP := HP.out
      rw [paramAt_drop _ _ _ hlt] at hP
      have hxn := HX.out _ (List.getElem_mem hlt)
      have SA := Lib.hid (fun w => specSame_any (mkB l[k].name) s w (by rw [mkB_size]; exact hxn) HS.out)
      rw [mkB_list] at SA
      generalize hq : sameB l[k].name s.data.toList = q at SA hP
      generalize mkB l[k].name = nm at x1 SA
      cases q with
      | false =>
        rw [if_neg (by simp)] at hP
        have HP2 := Lib.hid hP
        clear hP HP hq hxn
        go_wp2_with (go_at_call 53; refine (SA.out _).mono ?_; rintro e w3 ⟨rfl, hB3⟩)
        have B3 := Lib.hid (hB.out.trans (hB3.mono hB.out.size))
        clear hB3
        go_roundw
        case rel => exact ⟨k + 1, by omega, by go_num, HP2, B3⟩
        case measure => simp [intOf]; omega
      | true =>
        rw [if_pos rfl] at hP
        have HF := Lib.hid hP
        clear hP HP hq hxn
        go_wp2_with (go_at_call 53; refine (SA.out _).mono ?_; rintro e w3 ⟨rfl, hB3⟩; have z2 : w3.cell? ⟨g, off + k * 2 + 1, none⟩ = some (.string (mkB l[k].value)) := (hB3.cell (p := ⟨g, off + k * 2 + 1, none⟩) hg).trans x2; have z3 : w3.cell? ⟨w.heap.size, 2, none⟩ = some (.slice (some ⟨g, off, none⟩) l.length cap) := (hB3.cell (p := ⟨w.heap.size, 2, none⟩) (block_lt_of_cell hc2)).trans hc2; have B3 := Lib.hid (BR.out.trans (hB3.mono BR.out.size)); clear hB3)
        go_ret2
        exact ⟨by rw [← HF.out]; rfl, B3.out⟩
    · obtain rfl : k = l.length := by omega
      have g1 : decide ((l.length : Int) < (l.length : Int)) = false := by simp
      have HF : Hid (R = none) := Lib.hid (by rw [← HP.out, List.drop_length]; rfl)
      clear HP
      go_wp2_with fail
      go_ret2
      exact ⟨by rw [HF.out]; rfl, BR.out⟩
end Go.Proofs.Ytjleadlecdcdeaa
