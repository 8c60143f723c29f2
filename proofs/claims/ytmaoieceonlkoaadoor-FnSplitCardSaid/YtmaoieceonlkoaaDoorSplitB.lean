/-
  The walk of spec.Split: a row of the call's own holds the parts.
-/
import Derived.Test.YtmaoieceonlkoaaDoorSplitA
import Derived.Maps.AppendAt
namespace Go.Proofs.YtmaoieceonlkoaaDoor
set_option linter.unusedVariables false
open Go.RowKit

/-- The call hands back a slice that owns the strings l; nothing that was there has turned. -/
def GivesStrs (l : List ByteArray) (w : World) (e : Ending) (w' : World) : Prop :=
  ∃ v, e = .returned v ∧ w'.ownsRow w.heap.size 9 1 v l.length (l.map Value.string) ∧ Below w.heap.size w w'

theorem infoStr : (Tryd.prog.info? 9).map (fun i => (i.zero, i.size, i.bytes)) = some (some (.string ⟨#[]⟩), 1, 16) := by kernel_rfl

set_option maxRecDepth 100000 in
set_option maxHeartbeats 1000000 in
theorem specSplit_any (s : ByteArray) (b : UInt8) (w : World) (hs : s.size ≤ 1048576) :
    Calls Tryd.prog 21 #[.string s, .int .u8 b.toNat] w (GivesStrs (splitAll s b) w) := by
  obtain ⟨i0, hi, hz0, hz1, hz2⟩ := info_parts infoStr
  go_enter Tryd.func21, Tryd.ntmps21
  go_wp2
  go_loopw [5, 6, 7] (fun v p i wr => ∃ (k : Nat), k ≤ s.size ∧ i = .int .i64 k ∧ p = .int .i64 (spF s b k).2 ∧ wr.ownsRow w.heap.size 9 1 v (spF s b k).1.length ((spF s b k).1.map Value.string) ∧ Below w.heap.size w wr) (fun _ _ i _ => s.size - (intOf i).toNat)
  case atStart =>
    exact ⟨0, Nat.zero_le _, rfl, rfl, World.ownsRow_lit w #[] 0 (Nat.le_refl _) (by decide) rfl, (Below.refl _ _).alloc (Nat.le_refl _) _⟩
  case round =>
    obtain ⟨k, hk, rfl, rfl, hown, hB⟩ := hrel
    obtain ⟨hle, hlen⟩ := spF_le s b k
    generalize hF : spF s b k = F at hown hle hlen
    have HF := Lib.hid hF
    clear hF
    obtain ⟨xs, o⟩ := F
    simp only at hown hle hlen
    have hsz := hB.size
    by_cases hlt : k < s.size
    · have e0 : s.data.toList[k]? = some s[k] := by
        rw [List.getElem?_eq_getElem (by simpa using hlt)]; rfl
      cases hoc : occB s b k
      · have t1 : ((s[k].toNat : Int) == (b.toNat : Int)) = false := by
          unfold occB at hoc
          rw [e0] at hoc
          rw [beq_eq_false_iff_ne] at hoc ⊢
          intro e; apply hoc; congr 1; apply UInt8.toNat_inj.1; omega
        have HST := Lib.hid (spF_no hoc)
        clear hoc e0
        go_wp2
        go_roundw
        case rel => exact ⟨k + 1, by omega, by go_num, by rw [HST.out, HF.out], by rw [HST.out, HF.out]; exact hown, hB⟩
        case measure => simp [intOf]; omega
      · have t1 : ((s[k].toNat : Int) == (b.toNat : Int)) = true := by
          unfold occB at hoc
          rw [e0, beq_iff_eq] at hoc
          injection hoc with hoc
          rw [hoc, beq_iff_eq]
        have HST := Lib.hid (spF_yes hoc)
        clear hoc e0
        go_wp2_with (at_builtin; refine wpList_append_own _ rfl _ _ 30 rfl w.heap.size 9 i0 (.string ⟨#[]⟩) 1 16 Tryd.underlying30 hi hz0 hz1 hz2 rfl (by decide) _ _ _ rfl (hown.alloc _) ⟨wr.heap.size, 0, none⟩ 1 1 [.string (s.extract o k)] rfl rfl (cell_one_new _ _ _) (by simp [Value.oneCell']) (by unfold maxLen; omega) (by omega) (by simp; omega) ?_; intro v' w1 hown' hgrow _)
        have hB1 : Below w.heap.size w w1 := (hB.alloc hsz _).grown hgrow (by simp; omega) (fun k e => (hown.lt k e).1)
        go_roundw
        case rel => exact ⟨k + 1, by omega, by go_num, by rw [HST.out, HF.out]; go_num, by rw [HST.out, HF.out]; simpa using hown', hB1⟩
        case measure => simp [intOf]; omega
    · obtain rfl : k = s.size := by omega
      have HV : Hid (splitAll s b = xs ++ [s.extract o s.size]) := Lib.hid (by unfold splitAll; rw [HF.out])
      go_wp2_with (at_builtin; refine wpList_append_own _ rfl _ _ 30 rfl w.heap.size 9 i0 (.string ⟨#[]⟩) 1 16 Tryd.underlying30 hi hz0 hz1 hz2 rfl (by decide) _ _ _ rfl (hown.alloc _) ⟨wr.heap.size, 0, none⟩ 1 1 [.string (s.extract o s.size)] rfl rfl (cell_one_new _ _ _) (by simp [Value.oneCell']) (by unfold maxLen; omega) (by omega) (by simp; omega) ?_; intro v' w1 hown' hgrow _)
      have hB1 : Below w.heap.size w w1 := (hB.alloc hsz _).grown hgrow (by simp; omega) (fun k e => (hown.lt k e).1)
      go_ret
      exact ⟨v', rfl, by rw [HV.out]; simpa using hown', hB1⟩
end Go.Proofs.YtmaoieceonlkoaaDoor
