/-
  The number of a sign, by strings.IndexByte over the signs.
-/
import Derived.Test.YtdgdflbhjbgmdaaDoorBsI
import Derived.Lib.IndexLaws
namespace Go.Proofs.YtdgdflbhjbgmdaaDoor
set_option linter.unusedVariables false
open Go.RowKit

theorem signs_list (o : Nat) (h : o < 64) : signsA.data.toList[o]? = some (sg o) := by
  have e : ∀ k : Fin 64, signsA.data.toList[k.val]? = some (sg k.val) := by decide
  exact e ⟨o, h⟩
theorem index_sign (b : UInt8) : SignNo b (Lib.indexByte signsA.data.toList b) := by
  have hge := Lib.indexByte_ge signsA.data.toList b
  by_cases h : Lib.indexByte signsA.data.toList b = -1
  · right
    refine ⟨?_, h⟩
    rintro ⟨k, hk, hs⟩
    apply Lib.indexByte_none h k
    rw [signs_list k hk, hs]
  · left
    obtain ⟨o, ho⟩ : ∃ o : Nat, Lib.indexByte signsA.data.toList b = o := ⟨(Lib.indexByte signsA.data.toList b).toNat, by omega⟩
    obtain ⟨h1, h2⟩ := Lib.indexByte_some ho
    have hlt : o < 64 := by
      have := (List.getElem?_eq_some_iff.1 h1).1
      exact this
    rw [signs_list o hlt] at h1
    have hb : sg o = b := Option.some.inj h1
    have hu : us b = o := by rw [← hb, us_sg o hlt]
    exact ⟨⟨o, hlt, hb⟩, by omega, by rw [ho, hu]⟩
theorem or_six (a b : Nat) (ha : a < 2 ^ 40) (hb : b < 64) : bits .or .i64 ((a : Int) * 64) (b : Int) = (a : Int) * 64 + b := by
  have h2 : (BitVec.ofInt 64 ((a : Int) * 64) ||| BitVec.ofInt 64 (b : Int)) = BitVec.ofNat 64 (a * 64 + b) := by
    rw [show (a : Int) * 64 = ((a * 64 : Nat) : Int) by omega, BitVec.ofInt_natCast, BitVec.ofInt_natCast]
    apply BitVec.eq_of_toNat_eq
    rw [BitVec.toNat_or, BitVec.toNat_ofNat, BitVec.toNat_ofNat, BitVec.toNat_ofNat, Nat.mod_eq_of_lt (by omega), Nat.mod_eq_of_lt (by omega), Nat.mod_eq_of_lt (by omega)]
    rw [show a * 64 = 2 ^ 6 * a by omega]
    exact (Nat.two_pow_add_eq_or_of_lt (by omega) a).symm
  show IntKind.i64.wrap ((BitVec.ofInt 64 ((a : Int) * 64) ||| BitVec.ofInt 64 (b : Int)).toNat : Nat) = _
  rw [h2, BitVec.toNat_ofNat, IntKind.wrap_i64]
  omega
end Go.Proofs.YtdgdflbhjbgmdaaDoor
