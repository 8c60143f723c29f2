/-
  The laws' own small functions: a mark's text; two slices of texts compared, marked, looked at again.
-/
import Derived.Test.YtjleadlecdcdeaaBuf
import Derived.WalkKit
import Derived.WalkSpells
import Derived.Lib.Hide
import Derived.Lib.ItoaNum
import Derived.Lib.Strings
namespace Go.Proofs.Ytjleadlecdcdeaa
set_option linter.unusedVariables false
open Go.RowKit

def mtF : Nat → Nat → List UInt8 → List UInt8
  | 0, _, acc => acc
  | f + 1, k, acc => if k = 0 then acc else mtF f (k / 10) (UInt8.ofNat (48 + k % 10) :: acc)
def mtL (k : Nat) : List UInt8 := if k = 0 then [109, 48] else 109 :: mtF k k []
def mt (k : Nat) : ByteArray := ⟨(mtL k).toArray⟩

theorem mtF_step (f j : Nat) (acc : List UInt8) (hj : 0 < j) (hf : j ≤ f) : ∃ g, j / 10 ≤ g ∧ mtF f j acc = mtF g (j / 10) (UInt8.ofNat (48 + j % 10) :: acc) := by
  cases f with
  | zero => omega
  | succ f => exact ⟨f, by omega, by rw [mtF, if_neg (by omega)]⟩
theorem mtF_end (f : Nat) (acc : List UInt8) : mtF f 0 acc = acc := by
  cases f <;> simp [mtF]

set_option maxRecDepth 100000 in
set_option maxHeartbeats 400000 in
theorem markText_any (k : Nat) (w : World) (hk : k ≤ 1000000000000) :
    Calls Try.prog 88 #[.int .i64 k] w fun e w' => e = .returned (.string (mt k)) ∧ Below w.heap.size w w' := by
  by_cases h0 : k = 0
  · subst h0
    go_enter Try.func88, Try.ntmps88
    go_wp2
    go_ret
    exact ⟨rfl, Below.refl _ _⟩
  · have hpos : 0 < k := by omega
    have HV : Hid (mt k = ⟨(109 :: mtF k k []).toArray⟩) := Lib.hid (by unfold mt mtL; rw [if_neg h0])
    clear h0
    go_enter Try.func88, Try.ntmps88
    go_wp2
    go_loopw [0, 3] (fun i o wr => ∃ (j f : Nat) (acc : List UInt8), acc.length + j ≤ k ∧ j ≤ f ∧ i = .int .i64 j ∧ o = .string ⟨acc.toArray⟩ ∧ Hid (mtF f j acc = mtF k k []) ∧ Below w.heap.size w wr) (fun i _ _ => (intOf i).toNat)
    case atStart => exact ⟨k, k, [], by simp, Nat.le_refl _, rfl, rfl, Lib.hid rfl, Below.refl _ _⟩
    case round =>
      obtain ⟨j, f, acc, hj, hf, rfl, rfl, hr, hB⟩ := hrel
      by_cases hj0 : 0 < j
      · obtain ⟨g, hg, hstep⟩ := mtF_step f j acc hj0 hf
        rw [hr.out] at hstep
        have HSTEP := Lib.hid hstep.symm
        clear hstep
        have hbv : bv (UInt8.ofNat (48 + j % 10)) = .int .u8 (48 + (j : Int) % 10) := by
          unfold bv
          congr 1
          rw [UInt8.toNat_ofNat', Nat.mod_eq_of_lt (by omega)]
          omega
        have hbuf : Buf (wr.alloc (.cells #[.int .u8 (48 + (j : Int) % 10)] 5)) wr.heap.size 5 [UInt8.ofNat (48 + j % 10)] := by
          rw [← hbv]
          exact ⟨_, 0, 0, heap_alloc_new _ _, .inr (Nat.le_refl _), fun j hj => by
            have : j = 0 := by simpa using hj
            subst this; rfl⟩
        have hback := hbuf.back (P := Try.prog) 22 9 5 1 1 rfl Try.underlying22 Try.underlying5 Try.underlying9
        generalize hd : UInt8.ofNat (48 + j % 10) = d at hback
        rw [hd] at HSTEP
        clear hbv hbuf hd
        have hdec := Nat.div_lt_self hj0 (by decide : 1 < 10)
        go_wp2
        go_roundw
        case rel =>
          exact ⟨j / 10, g, d :: acc, by simp; omega, hg, by go_num, by congr 1, HSTEP, hB.alloc hB.size _⟩
        case measure => simp [intOf]; omega
      · obtain rfl : j = 0 := by omega
        rw [mtF_end] at hr
        have HR := Lib.hid hr.out
        clear hr
        go_wp2
        go_ret
        exact ⟨by rw [HV.out, ← HR.out]; rfl, hB⟩
end Go.Proofs.Ytjleadlecdcdeaa
