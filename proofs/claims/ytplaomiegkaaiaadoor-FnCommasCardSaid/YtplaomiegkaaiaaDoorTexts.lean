/-
  Two slices of texts compared.
-/
import Derived.Test.YtplaomiegkaaiaaDoorVals
import Derived.Deep.QuietTactic
import Derived.BigQuiet
namespace Go.Proofs.YtplaomiegkaaiaaDoor
set_option linter.unusedVariables false
open Go.RowKit

set_option maxRecDepth 100000 in
set_option maxHeartbeats 1000000 in
theorem sameTexts_any (va vb : Value) (la lb : List ByteArray) (w : World) (ha : ValsAt w va (la.map Value.string)) (hb : ValsAt w vb (lb.map Value.string)) (hal : la.length ≤ 4294967296) (hbl : lb.length ≤ 4294967296) :
    Calls Tryd.prog 18 #[va, vb] w fun e w' => e = .returned (.bool (decide (la = lb))) ∧ Quietly w w' := by
  by_cases hlen : la.length = lb.length
  · by_cases h0 : la.length = 0
    · obtain rfl : la = [] := List.eq_nil_of_length_eq_zero h0
      obtain rfl : lb = [] := List.eq_nil_of_length_eq_zero (by omega)
      obtain ⟨p, cap, rfl⟩ : ∃ p cap, va = .slice p 0 cap := by
        rcases ha with ⟨_, h⟩ | ⟨g, cap, h, _⟩
        · exact h
        · exact ⟨_, _, h⟩
      obtain ⟨q, cbp, rfl⟩ : ∃ p cap, vb = .slice p 0 cap := by
        rcases hb with ⟨_, h⟩ | ⟨g, cap, h, _⟩
        · exact h
        · exact ⟨_, _, h⟩
      go_enter Tryd.func18, Tryd.ntmps18
      go_wp2
      go_loop [5] (fun i => i = .int .i64 0) (fun _ => 0)
      case atStart => rfl
      case round =>
        obtain rfl := hrel
        go_wp2
        go_ret
        exact ⟨rfl, Quietly.refl _⟩
    · rcases ha with ⟨h, _⟩ | ⟨ga, ca, rfl, _, hca⟩
      · exact absurd (by simpa using h) (fun e : la = [] => h0 (by rw [e]; rfl))
      rcases hb with ⟨h, _⟩ | ⟨gb, cb, rfl, _, hcb⟩
      · exact absurd (by simpa using h) (fun e : lb = [] => h0 (by rw [hlen, e]; rfl))
      simp only [List.length_map] at hca hcb ⊢
      rw [← hlen] at hcb ⊢
      have HCA := Lib.hid hca
      have HCB := Lib.hid hcb
      have HLEN := Lib.hid hlen
      clear hca hcb hlen
      go_enter Tryd.func18, Tryd.ntmps18
      go_wp2
      go_loopw [5] (fun i wr => ∃ k : Nat, k ≤ la.length ∧ i = .int .i64 k ∧ Quietly w wr ∧ Hid (∀ j, j < k → la[j]? = lb[j]?)) (fun i _ => la.length - (intOf i).toNat)
      case atStart => exact ⟨0, Nat.zero_le _, rfl, Quietly.refl _, Lib.hid (fun j hj => by omega)⟩
      case round =>
        obtain ⟨k, hk, rfl, hq, hsame⟩ := hrel
        have HQ := Lib.hid hq
        clear hq
        by_cases hlt : k < la.length
        · have hka : la[k]? = some la[k] := List.getElem?_eq_getElem hlt
          have hltb : k < lb.length := by have := HLEN.out; omega
          have hkb : lb[k]? = some lb[k] := List.getElem?_eq_getElem hltb
          have hc1 : wr.cell? ⟨ga, k, none⟩ = some (.string la[k]) := by
            simp only [World.cell?, HQ.out.1]
            have := (HCA.out k hlt).1
            simp only [World.cell?] at this
            rw [this, List.getElem?_map, hka]; rfl
          have hc2 : wr.cell? ⟨gb, k, none⟩ = some (.string lb[k]) := by
            simp only [World.cell?, HQ.out.1]
            have := (HCB.out k hlt).1
            simp only [World.cell?] at this
            rw [this, List.getElem?_map, hkb]; rfl
          generalize hx : la[k] = x at hka hc1
          generalize hy : lb[k] = y at hkb hc2
          have HKA := Lib.hid hka
          have HKB := Lib.hid hkb
          clear hka hkb hx hy
          have hi1 : (0 : Int) ≤ (k : Int) := by omega
          have hi2 : (k : Int) < (la.length : Int) := by omega
          by_cases he : x = y
          · subst he
            go_wp2
            go_quiet (fail)
            go_wp2
            go_roundw
            case rel => exact ⟨k + 1, by omega, by go_num, HQ.out.drewN _, Lib.hid (fun j hj => by
              rcases Nat.lt_or_ge j k with h1 | h1
              · exact hsame.out j h1
              · obtain rfl : j = k := by omega
                rw [HKA.out, HKB.out])⟩
            case measure => simp [intOf]; omega
          · have hne := str_ne he
            have hne2 : (x.toList != y.toList) = true := by rw [bne, hne]; rfl
            have HV : Hid (decide (la = lb) = false) := Lib.hid (by
              rw [decide_eq_false_iff_not]
              intro e
              apply he
              have h1 := HKA.out
              rw [e, HKB.out] at h1
              injection h1 with h1
              exact h1.symm)
            clear he
            go_wp2
            go_quiet (fail)
            go_wp2
            go_ret
            exact ⟨by rw [HV.out]; rfl, HQ.out.drewN _⟩
        · have HV : Hid (decide (la = lb) = true) := Lib.hid (by
            rw [decide_eq_true_iff]
            apply List.ext_getElem?
            intro j
            rcases Nat.lt_or_ge j k with h1 | h1
            · exact hsame.out j h1
            · rw [List.getElem?_eq_none (by omega), List.getElem?_eq_none (by have := HLEN.out; omega)])
          go_wp2
          go_ret
          exact ⟨by rw [HV.out]; rfl, HQ.out⟩
  · have HV : Hid (decide (la = lb) = false) := Lib.hid (by
      rw [decide_eq_false_iff_not]
      intro e; apply hlen; rw [e])
    obtain ⟨p, ca, rfl⟩ : ∃ p cap, va = .slice p la.length cap := by
      rcases ha with ⟨h, p, cap, rfl⟩ | ⟨g, cap, h, _⟩
      · exact ⟨p, cap, by rw [show la = [] by simpa using h]; rfl⟩
      · exact ⟨_, _, by simpa using h⟩
    obtain ⟨q, cb, rfl⟩ : ∃ p cap, vb = .slice p lb.length cap := by
      rcases hb with ⟨h, p, cap, rfl⟩ | ⟨g, cap, h, _⟩
      · exact ⟨p, cap, by rw [show lb = [] by simpa using h]; rfl⟩
      · exact ⟨_, _, by simpa using h⟩
    have hne1 : ((la.length : Int) == (lb.length : Int)) = false := by rw [beq_eq_false_iff_ne]; omega
    have hne2 : ((la.length : Int) != (lb.length : Int)) = true := by rw [bne, hne1]; rfl
    clear hlen
    go_enter Tryd.func18, Tryd.ntmps18
    go_wp2
    go_ret
    exact ⟨by rw [HV.out]; rfl, Quietly.refl _⟩
end Go.Proofs.YtplaomiegkaaiaaDoor
