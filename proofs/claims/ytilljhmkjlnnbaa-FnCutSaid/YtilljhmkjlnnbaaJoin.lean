/-
  Texts put together with a text between: the walk of the laws' joined.
-/
import Derived.Test.YtilljhmkjlnnbaaVals
import Derived.Test.YtilljhmkjlnnbaaRow
namespace Go.Proofs.Ytilljhmkjlnnbaa
set_option linter.unusedVariables false
open Go.RowKit

def joinL (m : List UInt8) : List ByteArray → List UInt8
  | [] => []
  | x :: xs => x.data.toList ++ xs.flatMap (fun y => m ++ y.data.toList)
theorem joinL_one (m : List UInt8) (y : ByteArray) : joinL m [y] = y.data.toList := by simp [joinL]
theorem joinL_snoc (m : List UInt8) (xs : List ByteArray) (y : ByteArray) (h : xs ≠ []) : joinL m (xs ++ [y]) = joinL m xs ++ m ++ y.data.toList := by
  cases xs with
  | nil => exact absurd rfl h
  | cons x xs => simp [joinL]
set_option maxRecDepth 100000 in
set_option maxHeartbeats 1000000 in
theorem joined_any (v : Value) (l : List ByteArray) (m : ByteArray) (w : World) (hv : ValsAt w v (l.map Value.string)) (h0 : l ≠ []) (hn : l.length ≤ 100000) (hx : ∀ y ∈ l, y.size ≤ 100000) (hm : m.size ≤ 1) :
    Calls Try.prog 11 #[v, .string m] w fun e w' => e = .returned (.string ⟨(joinL m.data.toList l).toArray⟩) ∧ Below w.heap.size w w' := by
  obtain ⟨i0, hi, hz0, hz1, hz2⟩ := info_parts infoByteJ
  rcases hv with ⟨h, _⟩ | ⟨gl, cl, rfl, hgl, hcl⟩
  · exact absurd (by simpa using h) h0
  simp only [List.length_map] at hcl ⊢
  have HCL := Lib.hid hcl
  have HX := Lib.hid hx
  have H0 := Lib.hid h0
  clear hcl hx h0
  go_enter Try.func11, Try.ntmps11
  go_wp2
  go_loopw [5, 6] (fun o i wr => ∃ (k : Nat) (L : List UInt8), k ≤ l.length ∧ i = .int .i64 k ∧ Hid (L = joinL m.data.toList (l.take k)) ∧ L.length ≤ 100001 * k ∧ wr.ownsRow w.heap.size 5 1 o L.length (L.map bv) ∧ Below w.heap.size w wr) (fun _ i _ => l.length - (intOf i).toNat)
  case atStart => exact ⟨0, [], Nat.zero_le _, rfl, Lib.hid (by simp [joinL]), by simp, World.ownsRow_lit w #[] 0 (Nat.le_refl _) (by decide) rfl, (Below.refl _ _).alloc (Nat.le_refl _) _⟩
  case round =>
    obtain ⟨k, L, hk, rfl, HL, hL, hown, hB⟩ := hrel
    have hsz := hB.size
    by_cases hlt : k < l.length
    · have hka : l[k]? = some l[k] := List.getElem?_eq_getElem hlt
      have hxs : l[k].size ≤ 100000 := HX.out _ (List.getElem_mem _)
      have hcell : ∀ w', Below w.heap.size w w' → w'.cell? ⟨gl, k, none⟩ = some (.string l[k]) := fun w' hb => by
        rw [hb.cell (show gl < w.heap.size from hgl), (HCL.out k hlt).1, List.getElem?_map, hka]; rfl
      have htk : l.take (k + 1) = l.take k ++ [l[k]] := by rw [List.take_add_one, hka]; rfl
      generalize l[k] = x at hka hxs hcell htk
      have HCELL := Lib.hid hcell
      have HTK := Lib.hid htk
      clear hka hcell htk
      have hi1 : (0 : Int) ≤ (k : Int) := by omega
      have hi2 : (k : Int) < (l.length : Int) := by omega
      by_cases hk0 : k = 0
      · subst hk0
        have hc1 := HCELL.out wr hB
        obtain rfl : L = [] := List.eq_nil_of_length_eq_zero (by omega)
        go_wp2_with (at_builtin; refine Lib.wpList_append_own_string _ rfl _ _ 22 9 rfl w.heap.size 5 i0 Try.underlying22 Try.underlying9 hi hz0 hz1 hz2 _ _ _ rfl hown x rfl (by unfold maxLen; omega) (by omega) (by omega) ?_; intro v' w1 hown' hgrow _)
        have hB1 : Below w.heap.size w w1 := hB.grown hgrow hsz (fun k e => (hown.lt k e).1)
        go_roundw
        case rel => exact ⟨1, x.data.toList, by omega, by go_num, Lib.hid (by rw [HTK.out, List.take_zero, List.nil_append, joinL_one]), by simp; omega, by simpa using row_app hown', hB1⟩
        case measure => simp [intOf]; omega
      · have hk1 : decide ((0 : Int) < (k : Int)) = true := by simp; omega
        have HNE : Hid (l.take k ≠ []) := Lib.hid (by intro e; have := congrArg List.length e; rw [List.length_take, List.length_nil] at this; omega)
        have hlm : (L ++ m.data.toList).length = L.length + m.size := by simp
        go_wp2_with (first | (at_builtin; refine Lib.wpList_append_own_string _ rfl _ _ 22 9 rfl w.heap.size 5 i0 Try.underlying22 Try.underlying9 hi hz0 hz1 hz2 _ _ _ rfl hown m rfl (by unfold maxLen; omega) (by omega) (by omega) ?_; intro v' w1 hown' hgrow _; have hB1 : Below w.heap.size w w1 := hB.grown hgrow hsz (fun k e => (hown.lt k e).1); have hsz1 := hB1.size; have hc1 := HCELL.out w1 hB1; have hown1 := row_app hown') | (at_builtin; refine Lib.wpList_append_own_string _ rfl _ _ 22 9 rfl w.heap.size 5 i0 Try.underlying22 Try.underlying9 hi hz0 hz1 hz2 _ _ _ rfl hown1 x rfl (by unfold maxLen; omega) (by omega) (by omega) ?_; intro v2 w2 hown2 hgrow2 _))
        have hB2 : Below w.heap.size w w2 := hB1.grown hgrow2 hsz1 (fun k e => (hown1.lt k e).1)
        go_roundw
        case rel => exact ⟨k + 1, L ++ m.data.toList ++ x.data.toList, by omega, by go_num, Lib.hid (by rw [HTK.out, joinL_snoc _ _ _ HNE.out, HL.out]), by simp; omega, row_app hown2, hB2⟩
        case measure => simp [intOf]; omega
    · obtain rfl : k = l.length := by omega
      have hback := rowJ_back (P := Try.prog) hown 22 9 5 Try.underlying22 Try.underlying5 Try.underlying9
      go_wp2
      go_ret
      exact ⟨by rw [HL.out, List.take_length]; rfl, hB⟩
end Go.Proofs.Ytilljhmkjlnnbaa
