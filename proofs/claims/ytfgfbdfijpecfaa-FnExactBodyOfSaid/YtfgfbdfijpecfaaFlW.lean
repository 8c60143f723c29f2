/-
  Fields: the walk of spec's PutFields.
-/
import Derived.Test.YtfgfbdfijpecfaaPutL
import Derived.Test.YtfgfbdfijpecfaaRow
import Derived.StillTailTactics
namespace Go.Proofs.Ytfgfbdfijpecfaa
set_option linter.unusedVariables false
open Go.RowKit

theorem add_off (g off j : Nat) : (⟨g, off, none⟩ : Addr).add j = ⟨g, off + j, none⟩ := by unfold Addr.add; split <;> simp_all

set_option maxRecDepth 100000 in
set_option maxHeartbeats 1000000 in
theorem specPut_any (v : Value) (l : List Fl) (w : World) (hv : FlsAt w v l) (hm : (putL l).length ≤ 67108864) (hl : l.length ≤ 16777216) :
    Calls Try.prog 19 #[v] w fun e w' => e = .returned (.string (mkB (putL l))) ∧ Below w.heap.size w w' := by
  obtain ⟨i0, hi, hz0, hz1, hz2⟩ := info_parts infoByteJ
  obtain ⟨p, cap, rfl⟩ := hv.slice
  have HV := Lib.hid hv
  have HM := Lib.hid hm
  clear hv hm
  go_enter Try.func19, Try.ntmps19
  go_wp2
  go_loopw [3, 4] (fun o i wr => ∃ (k : Nat) (L : List UInt8), k ≤ l.length ∧ i = .int .i64 k ∧ Hid (L = putL (l.take k)) ∧ wr.ownsRow w.heap.size 5 1 o L.length (L.map bv) ∧ Below w.heap.size w wr) (fun _ i _ => l.length - (intOf i).toNat)
  case atStart => exact ⟨0, [], Nat.zero_le _, rfl, Lib.hid (by simp [putL]), World.ownsRow_lit w #[] 0 (Nat.le_refl _) (by decide) rfl, (Below.refl _ _).alloc (Nat.le_refl _) _⟩
  case round =>
    obtain ⟨k, L, hk, rfl, HL, hown, hB⟩ := hrel
    have hsz := hB.size
    by_cases hlt : k < l.length
    · have g1 : decide ((k : Int) < (l.length : Int)) = true := by simp; omega
      have i1 : (0 : Int) ≤ (k : Int) := by omega
      have i2 : (k : Int) < (l.length : Int) := by omega
      obtain ⟨g, off, c2, hgv, hg, hc⟩ : ∃ g off c2, Value.slice p l.length cap = .slice (some ⟨g, off, none⟩) l.length c2 ∧ g < w.heap.size ∧ ∀ k, (h : k < l.length) → w.cell? ⟨g, off + k * 2, none⟩ = some (.string (mkB l[k].name)) ∧ w.cell? ⟨g, off + k * 2 + 1, none⟩ = some (.string (mkB l[k].body)) := by
        rcases HV.out with ⟨h, _⟩ | h
        · rw [h] at hlt; simp at hlt
        · exact h
      injection hgv with hgv1 hgv2 hgv3
      subst hgv1 hgv3
      obtain ⟨x1, x2⟩ := hc k hlt
      have htk := putL_take l k hlt
      have hle := putL_take_le l (k + 1)
      generalize l[k] = f at x1 x2 htk
      rw [htk, List.length_append, ← HL.out, putF_len] at hle
      have hpb := putF_bytes f
      have hpl := putF_len f
      obtain ⟨P, hP⟩ : ∃ P, putF f = P := ⟨_, rfl⟩
      rw [hP] at hpb hpl
      have HN : Hid (L ++ P = putL (l.take (k + 1))) := Lib.hid (by rw [htk, ← HL.out, hP])
      have n1 : (mkB f.name).size = f.name.length := mkB_size _
      have n2 : (mkB f.body).size = f.body.length := mkB_size _
      have hM := HM.out
      generalize mkB f.name = nm at x1 hpb n1
      generalize mkB f.body = bd at x2 hpb n2
      have s1 : ¬ 9223372036854775807 < nm.size + 2 := by omega
      have s2 : ¬ 9223372036854775807 < nm.size + 2 + bd.size := by omega
      have s3 : ¬ 9223372036854775807 < nm.size + 2 + bd.size + 2 := by omega
      have hLP : L.length + P.length ≤ 67108864 := by omega
      have HPB := Lib.hid hpb
      have HLP := Lib.hid hLP
      have y1 : wr.drew.cell? ⟨g, off + k * 2, none⟩ = some (.string nm) := (hB.cell (p := ⟨g, off + k * 2, none⟩) hg).trans x1
      have y2 : wr.drew.cell? ⟨g, off + k * 2 + 1, none⟩ = some (.string bd) := (hB.cell (p := ⟨g, off + k * 2 + 1, none⟩) hg).trans x2
      have z1 : wr.cell? ⟨g, off + k * 2, none⟩ = some (.string nm) := (hB.cell (p := ⟨g, off + k * 2, none⟩) hg).trans x1
      have z2 : wr.cell? ⟨g, off + k * 2 + 1, none⟩ = some (.string bd) := (hB.cell (p := ⟨g, off + k * 2 + 1, none⟩) hg).trans x2
      clear hc x1 x2 htk hle hpb hpl hP n1 n2 hM HL hLP
      go_wp2_with fail
      go_still_tail 14, (by kernel_rfl)
      change wpList _ _ _ _ _ wr.drew
      rw [HPB.out]
      have hownd : wr.drew.ownsRow w.heap.size 5 1 _ L.length (L.map bv) := hown
      have hBd : Below w.heap.size w wr.drew := hB.drew
      have hszd : w.heap.size ≤ wr.drew.heap.size := hsz
      have hms : (mkB P).size = P.length := mkB_size P
      generalize wr.drew = wd at hownd hBd hszd y1 y2 ⊢
      go_wp2_with (first | (at_builtin; refine Lib.wpList_append_own_string _ rfl _ _ 22 9 rfl w.heap.size 5 i0 Try.underlying22 Try.underlying9 hi hz0 hz1 hz2 _ _ _ rfl hownd (mkB P) rfl (by have := HLP.out; unfold maxLen; omega) (by have := HLP.out; omega) (by omega) ?_; intro v' w1 hown' hgrow _))
      have hB1 : Below w.heap.size w w1 := hBd.grown hgrow hszd (fun k e => (hownd.lt k e).1)
      have HROW : Hid (w1.ownsRow w.heap.size 5 1 v' (L ++ P).length ((L ++ P).map bv)) := Lib.hid (row_app hown')
      clear hown' hownd hown hBd hB
      go_wp2_with fail
      go_roundw
      case rel => exact ⟨k + 1, L ++ P, by omega, by go_num, HN, HROW.out, hB1⟩
      case measure => simp [intOf]; omega
    · obtain rfl : k = l.length := by omega
      have hback := rowJ_back (P := Try.prog) hown 22 9 5 Try.underlying22 Try.underlying5 Try.underlying9
      go_wp2
      go_ret
      exact ⟨by rw [HL.out, List.take_length]; rfl, hB⟩
end Go.Proofs.Ytfgfbdfijpecfaa
