/-
  Addresses: the walk of spec's l06Last.
-/
import Derived.Test.YtplaomiegkaaiaaDoorAdL
import Derived.Test.YtplaomiegkaaiaaDoorHasS
namespace Go.Proofs.YtplaomiegkaaiaaDoor
set_option linter.unusedVariables false
open Go.RowKit

set_option maxRecDepth 100000 in
set_option maxHeartbeats 400000 in
theorem last_any (s : ByteArray) (b : UInt8) (w : World) (hs : s.size ≤ 1048576) :
    Calls Tryd.prog 63 #[.string s, .int .u8 (b.toNat : Int)] w fun e w' => e = .returned (.int .i64 (lastI b s.data.toList)) ∧ w' = w := by
  obtain ⟨R, hR⟩ : ∃ R, lastI b s.data.toList = R := ⟨_, rfl⟩
  have HR := Lib.hid hR
  rw [hR]
  have hlen : s.data.toList.length = s.size := by simp
  have HLEN := Lib.hid hlen
  clear hR hlen
  go_enter Tryd.func63, Tryd.ntmps63
  go_wp2
  go_loop [5] (fun a => ∃ i : Int, -1 ≤ i ∧ i < (s.size : Int) ∧ a = .int .i64 i ∧ Hid (∀ j : Nat, i < (j : Int) → s.data.toList[j]? ≠ some b)) (fun a => (intOf a + 1).toNat)
  case atStart =>
    refine ⟨(s.size : Int) - 1, by omega, by omega, rfl, Lib.hid (fun j hj h => ?_)⟩
    have := (List.getElem?_eq_some_iff.1 h).1
    rw [HLEN.out] at this
    omega
  case round =>
    obtain ⟨i, h1, h2, rfl, HN⟩ := hrel
    by_cases h0 : i < 0
    · have g0 : decide ((0 : Int) ≤ i) = false := by simp; omega
      have HQ : Hid (R = -1) := Lib.hid (by rw [← HR.out]; exact lastI_none b _ (fun j => HN.out j (by omega)))
      clear HR HN
      go_wp2_with fail
      go_ret
      exact ⟨by rw [HQ.out]; rfl, rfl⟩
    · obtain ⟨k, rfl⟩ : ∃ k : Nat, i = (k : Int) := ⟨i.toNat, by omega⟩
      have g0 : decide ((0 : Int) ≤ (k : Int)) = true := by simp
      have j1 : (0 : Int) ≤ (k : Int) := by omega
      have j2 : (k : Int) < (s.size : Int) := by omega
      have j3 : k < s.size := by omega
      have hb : s.data.toList[k]? = some s[k] := by
        rw [List.getElem?_eq_getElem (by simpa using j3)]
        rfl
      by_cases hx : s[k] = b
      · have d1 : ((s[k].toNat : Int) == (b.toNat : Int)) = true := by rw [hx]; simp
        have HQ : Hid (R = (k : Int)) := Lib.hid (by rw [← HR.out]; exact lastI_at b _ k (by rw [hb, hx]) (fun j hj => HN.out j (by omega)))
        clear HR HN hx hb h0
        go_wp2_with fail
        go_ret
        exact ⟨by rw [HQ.out]; rfl, rfl⟩
      · have d1 : ((s[k].toNat : Int) == (b.toNat : Int)) = false := ne_byte hx
        have HN2 : Hid (∀ j : Nat, (k : Int) - 1 < (j : Int) → s.data.toList[j]? ≠ some b) := Lib.hid (fun j hj => by
          by_cases hjk : j = k
          · rw [hjk, hb]
            intro h
            exact hx (Option.some.inj h)
          · exact HN.out j (by omega))
        clear HN hx hb h0
        go_wp2_with fail
        go_round
        case rel => exact ⟨(k : Int) - 1, by omega, by omega, by go_num, HN2⟩
        case measure => simp [intOf]
end Go.Proofs.YtplaomiegkaaiaaDoor
