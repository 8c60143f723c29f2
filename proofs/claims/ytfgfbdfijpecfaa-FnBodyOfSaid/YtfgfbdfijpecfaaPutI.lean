/-
  Fields: the walk of impl's PutFields.
-/
import Derived.Test.YtfgfbdfijpecfaaRow
import Derived.Test.YtfgfbdfijpecfaaPutIs
import Derived.Test.YtfgfbdfijpecfaaAppB
namespace Go.Proofs.Ytfgfbdfijpecfaa
set_option linter.unusedVariables false
open Go.RowKit

theorem put_join (L : List UInt8) (f : Fl) : L ++ (mkB f.name).data.toList ++ (⟨#[58, 32]⟩ : ByteArray).data.toList ++ (mkB f.body).data.toList ++ (⟨#[13, 10]⟩ : ByteArray).data.toList = L ++ putF f := by
  simp [putF, mkB]
theorem two_len (a b : UInt8) : [a, b].length = 2 := rfl
theorem lit2 (a b : UInt8) : (⟨#[a, b]⟩ : ByteArray).size = 2 := rfl
set_option maxRecDepth 100000 in
set_option maxHeartbeats 1000000 in
theorem implPut_is : PutIs := by
  intro v l w hv hm hl
  obtain ⟨i0, hi, hz0, hz1, hz2⟩ := info_parts infoByteJ
  obtain ⟨p, cap, rfl⟩ := hv.slice
  have HV := Lib.hid hv
  have HM := Lib.hid hm
  clear hv hm
  go_enter Try.func18, Try.ntmps18
  go_wp2
  go_loopw [3, 8] (fun o i wr => ∃ (k : Nat) (L : List UInt8), k ≤ l.length ∧ i = .int .i64 k ∧ Hid (L = putL (l.take k)) ∧ wr.ownsRow w.heap.size 5 1 o L.length (L.map bv) ∧ Below w.heap.size w wr) (fun _ i _ => l.length - (intOf i).toNat)
  case atStart => exact ⟨0, [], Nat.zero_le _, rfl, Lib.hid (by simp [putL]), World.ownsRow_nil _ _ _ _, Below.refl _ _⟩
  case round =>
    obtain ⟨k, L, hk, rfl, HL, hown, hB⟩ := hrel
    have hsz := hB.size
    by_cases hlt : k < l.length
    · have g1 : decide ((k : Int) < (l.length : Int)) = true := by simp; omega
      have i1 : (0 : Int) ≤ (k : Int) := by omega
      have i2 : (k : Int) < (l.length : Int) := by omega
      obtain ⟨g, off, c2, hgv, hg, hc⟩ : ∃ g off c2, Value.slice p l.length cap = .slice (some ⟨g, off, none⟩) l.length c2 ∧ g < w.heap.size ∧ ∀ k, (h : k < l.length) → w.cell? ⟨g, off + k * 2, none⟩ = some (.string (mkB l[k].name)) ∧ w.cell? ⟨g, off + k * 2 + 1, none⟩ = some (.string (mkB l[k].body)) := by
        rcases HV.out with ⟨h, _⟩ | h
        · rw [h] at hlt; simp at hlt
        · exact h
      injection hgv with hgv1 hgv2 hgv3
      subst hgv1 hgv3
      obtain ⟨x1, x2⟩ := hc k hlt
      have htk := putL_take l k hlt
      have hle := putL_take_le l (k + 1)
      generalize l[k] = f at x1 x2 htk
      rw [htk, List.length_append, ← HL.out, putF_len] at hle
      have hpl := putF_len f
      have HN : Hid (L ++ putF f = putL (l.take (k + 1))) := Lib.hid (by rw [htk, ← HL.out])
      have n1 : (mkB f.name).size = f.name.length := mkB_size _
      have n2 : (mkB f.body).size = f.body.length := mkB_size _
      have hM := HM.out
      have HSZ : Hid (L.length + f.name.length + f.body.length + 4 ≤ 8388608) := Lib.hid (by omega)
      have z1 : wr.cell? ⟨g, off + k * 2, none⟩ = some (.string (mkB f.name)) := (hB.cell (p := ⟨g, off + k * 2, none⟩) hg).trans x1
      have z2 : wr.cell? ⟨g, off + k * 2 + 1, none⟩ = some (.string (mkB f.body)) := (hB.cell (p := ⟨g, off + k * 2 + 1, none⟩) hg).trans x2
      have B0 := Lib.hid (hB.alloc hsz (.cells #[.string (mkB f.name), .string (mkB f.body)] 35))
      have HOWN := Lib.hid (hown.alloc (.cells #[.string (mkB f.name), .string (mkB f.body)] 35))
      have F0 := Lib.hid (alloc_new wr #[.string (mkB f.name), .string (mkB f.body)] 35)
      have N1 := Lib.hid n1
      have N2 := Lib.hid n2
      clear hc x1 x2 htk hle hpl n1 n2 hM HL hB hown
      go_wp2_with (first
        | (at_builtin; (refine Lib.wpList_append_own_string _ rfl _ _ 22 9 rfl w.heap.size 5 i0 Try.underlying22 Try.underlying9 hi hz0 hz1 hz2 _ _ _ rfl HOWN.out (mkB f.name) rfl (by have := HSZ.out; simp only [N1.out]; unfold maxLen; omega) (by have := HSZ.out; simp only [N1.out]; omega) B0.out.size ?_; intro v1 w1 hown1 hgrow1 _; have F1 := Lib.hid (two_kept HOWN.out hgrow1 F0.out (by decide)); have B1 := Lib.hid (app_below B0.out HOWN.out hgrow1); have HO1 := Lib.hid (row_app hown1); clear hown1 hgrow1))
        | (at_builtin; (refine Lib.wpList_append_own_string _ rfl _ _ 22 9 rfl w.heap.size 5 i0 Try.underlying22 Try.underlying9 hi hz0 hz1 hz2 _ _ _ rfl HO1.out ⟨#[58, 32]⟩ rfl (by have := HSZ.out; simp only [List.length_append, lit2, mkB_list]; unfold maxLen; omega) (by have := HSZ.out; simp only [List.length_append, lit2, mkB_list]; omega) B1.out.size ?_; intro v2 w2 hown2 hgrow2 _; have F2 := Lib.hid (two_kept HO1.out hgrow2 F1.out (by decide)); have B2 := Lib.hid (app_below B1.out HO1.out hgrow2); have HO2 := Lib.hid (row_app hown2); have c1 := (cell_of_two F2.out).2; clear hown2 hgrow2))
        | (at_builtin; (refine Lib.wpList_append_own_string _ rfl _ _ 22 9 rfl w.heap.size 5 i0 Try.underlying22 Try.underlying9 hi hz0 hz1 hz2 _ _ _ rfl HO2.out (mkB f.body) rfl (by have := HSZ.out; simp only [List.length_append, N2.out, mkB_list, two_len]; unfold maxLen; omega) (by have := HSZ.out; simp only [List.length_append, N2.out, mkB_list, two_len]; omega) B2.out.size ?_; intro v3 w3 hown3 hgrow3 _; have B3 := Lib.hid (app_below B2.out HO2.out hgrow3); have HO3 := Lib.hid (row_app hown3); clear hown3 hgrow3 c1))
        | (at_builtin; (refine Lib.wpList_append_own_string _ rfl _ _ 22 9 rfl w.heap.size 5 i0 Try.underlying22 Try.underlying9 hi hz0 hz1 hz2 _ _ _ rfl HO3.out ⟨#[13, 10]⟩ rfl (by have := HSZ.out; simp only [List.length_append, lit2, mkB_list, two_len]; unfold maxLen; omega) (by have := HSZ.out; simp only [List.length_append, lit2, mkB_list, two_len]; omega) B3.out.size ?_; intro v4 w4 hown4 hgrow4 _; have B4 := Lib.hid (app_below B3.out HO3.out hgrow4); have HO4 := Lib.hid (row_app hown4); clear hown4 hgrow4)))
      go_roundw
      case rel => exact ⟨k + 1, L ++ putF f, by omega, by go_num, HN, by rw [← put_join]; exact HO4.out, B4.out⟩
      case measure => simp [intOf]; omega
    · obtain rfl : k = l.length := by omega
      have hback := rowJ_back (P := Try.prog) hown 22 9 5 Try.underlying22 Try.underlying5 Try.underlying9
      go_wp2
      go_ret
      exact ⟨by rw [HL.out, List.take_length]; rfl, hB⟩
end Go.Proofs.Ytfgfbdfijpecfaa
