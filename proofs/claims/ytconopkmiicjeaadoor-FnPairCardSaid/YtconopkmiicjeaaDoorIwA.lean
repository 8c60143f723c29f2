/-
  Words: the walks of impl's inAtom, all, AtomOk.
-/
import Derived.Test.YtconopkmiicjeaaDoorWdH
import Derived.Test.YtconopkmiicjeaaDoorShelf
import Derived.Lib.IndexLaws
import Derived.Shelf.Abstract
namespace Go.Proofs.YtconopkmiicjeaaDoor
set_option linter.unusedVariables false
open Go.RowKit

theorem index_has (l : List UInt8) (c : UInt8) : decide (Lib.indexByte l c < 0) = !hasL c l := by
  have hge := Lib.indexByte_ge l c
  cases h : hasL c l with
  | true =>
    have : ¬ Lib.indexByte l c < 0 := by
      intro hn
      have h1 : Lib.indexByte l c = -1 := by omega
      have h2 := Lib.indexByte_none h1
      unfold hasL at h
      rw [List.any_eq_true] at h
      obtain ⟨x, hx, hxc⟩ := h
      obtain ⟨k, hk⟩ := List.mem_iff_getElem?.1 hx
      exact h2 k (by rw [hk, beq_iff_eq.1 hxc])
    simp [this]
  | false =>
    have : Lib.indexByte l c < 0 := by
      rcases Int.lt_or_le (Lib.indexByte l c) 0 with h1 | h1
      · exact h1
      · obtain ⟨o, ho⟩ := Int.eq_ofNat_of_zero_le h1
        have h2 := (Lib.indexByte_some ho).1
        have : hasL c l = true := by
          unfold hasL
          rw [List.any_eq_true]
          exact ⟨c, List.mem_of_getElem? h2, beq_self_eq_true _⟩
        rw [h] at this
        cases this
    simp [this]

def notInAtom : ByteArray := ⟨#[40, 41, 123, 37, 42, 93, 34, 92]⟩
theorem atomB_not (b : UInt8) : atomB b = (decide (33 ≤ b.toNat ∧ b.toNat ≤ 126) && !hasL b notInAtom.data.toList) := by
  unfold atomB
  congr 2
  have h : ∀ b : UInt8, hasL b specials = hasL b [40, 41, 123, 37, 42, 93, 34, 92] := by
    intro b
    unfold hasL specials
    simp only [List.any_cons, List.any_nil]
    cases (40 == b) <;> cases (41 == b) <;> cases (123 == b) <;> cases (37 == b) <;> cases (42 == b) <;> cases (34 == b) <;> cases (92 == b) <;> cases (93 == b) <;> rfl
  exact h b

set_option maxHeartbeats 400000 in
theorem inAtom_any (b : UInt8) (w : World) :
    Calls Tryd.prog 50 #[.int .u8 b.toNat] w fun e w' => e = .returned (.bool (atomB b)) ∧ w = w' := by
  rw [atomB_not]
  have hb : ((b.toNat : Int)).toNat.toUInt8 = b := by rw [Int.toNat_natCast]; simp
  have IB := Lib.hid (fun w => Tryd.strings_IndexByte notInAtom (b.toNat : Int) w)
  rw [hb] at IB
  have ih := index_has notInAtom.data.toList b
  generalize Lib.indexByte notInAtom.data.toList b = I at IB ih
  generalize hasL b notInAtom.data.toList = v at ih
  have IH := Lib.hid ih
  clear hb ih
  by_cases h1 : 33 ≤ b.toNat
  · have g1 : decide ((32 : Int) < (b.toNat : Int)) = true := by simp; omega
    by_cases h2 : b.toNat ≤ 126
    · rw [decide_eq_true (And.intro h1 h2)]
      have g2 : decide ((b.toNat : Int) < 127) = true := by simp; omega
      clear h1 h2
      go_enter Tryd.func50, Tryd.ntmps50
      go_wp2_with fail
      refine (IB.out _).mono ?_
      rintro e w1 ⟨rfl, rfl⟩
      go_wp2_with fail
      go_ret
      exact ⟨by rw [IH.out]; rfl, rfl⟩
    · rw [decide_eq_false (fun h => h2 h.2)]
      have g2 : decide ((b.toNat : Int) < 127) = false := by simp; omega
      clear h1 h2
      go_enter Tryd.func50, Tryd.ntmps50
      go_wp2_with fail
      go_ret
      exact ⟨rfl, rfl⟩
  · rw [decide_eq_false (fun h => h1 h.1)]
    have g1 : decide ((32 : Int) < (b.toNat : Int)) = false := by simp; omega
    clear h1
    go_enter Tryd.func50, Tryd.ntmps50
    go_wp2_with fail
    go_ret
    exact ⟨rfl, rfl⟩

/-- A function of the program that tells something of a byte. -/
structure Fits (K : FuncId) (p : UInt8 → Bool) : Prop where
  goes : ∀ (b : UInt8) (w : World), Calls Tryd.prog K #[.int .u8 b.toNat] w fun e w' => e = .returned (.bool (p b)) ∧ w = w'
  enters : Enters Tryd.prog K
theorem fits_inAtom : Fits 50 atomB := ⟨inAtom_any, enters_of Tryd.func50 (by kernel_rfl) rfl⟩

set_option maxRecDepth 100000 in
set_option maxHeartbeats 400000 in
theorem all_any (K : FuncId) (p : UInt8 → Bool) (hK : Fits K p) (s : ByteArray) (w : World) (hs : s.size ≤ 1000000000) :
    Calls Tryd.prog 33 #[.string s, .func (.func K) #[] #[]] w fun e w' => e = .returned (.bool (s.data.toList.all p)) ∧ w' = w := by
  generalize hH : s.data.toList.all p = H
  have HH := Lib.hid hH
  have FK := Lib.hid hK
  clear hH hK
  go_enter Tryd.func33, Tryd.ntmps33
  go_wp2
  go_loopw [8] (fun i wr => ∃ k : Nat, k ≤ s.size ∧ i = .int .i64 (k : Int) ∧ Hid ((s.data.toList.take k).all p = true) ∧ wr = w) (fun i _ => s.size - (intOf i).toNat)
  case atStart => exact ⟨0, by omega, rfl, Lib.hid rfl, rfl⟩
  case round =>
    obtain ⟨k, hk, rfl, HN, rfl⟩ := hrel
    have hlen : s.data.toList.length = s.size := by simp
    by_cases hlt : k < s.size
    · have AT := Lib.hid (fun w => FK.out.goes s[k] w)
      have EN := Lib.hid (fun w => FK.out.enters #[.int .u8 s[k].toNat] w)
      cases ha : p s[k] with
      | true =>
        rw [ha] at AT
        have HN2 : Hid ((s.data.toList.take (k + 1)).all p = true) := Lib.hid (by rw [all_take p _ k (by omega), HN.out, byte_at s k hlt, ha]; rfl)
        clear ha hlen
        go_wp2_with fail
        rw [EN.out]
        go_wp2_with fail
        refine (AT.out _).mono ?_
        rintro e w1 ⟨rfl, rfl⟩
        go_wp2_with fail
        go_roundw
        case rel => exact ⟨k + 1, by omega, by go_num, HN2, trivial⟩
        case measure => simp [intOf]; omega
      | false =>
        rw [ha] at AT
        have HT : Hid (H = false) := Lib.hid (by
          rw [← HH.out]
          exact all_false p _ k (by omega) (by rw [byte_at s k hlt, ha]))
        clear ha hlen
        go_wp2_with fail
        rw [EN.out]
        go_wp2_with fail
        refine (AT.out _).mono ?_
        rintro e w1 ⟨rfl, rfl⟩
        go_wp2_with fail
        go_ret
        exact ⟨by rw [HT.out]; rfl, rfl⟩
    · have HF : Hid (H = true) := Lib.hid (by
        have hall := HN.out
        rw [List.take_of_length_le (by omega)] at hall
        rw [← HH.out]
        exact hall)
      clear hlen
      go_wp2_with fail
      go_ret
      exact ⟨by rw [HF.out]; rfl, rfl⟩

set_option maxHeartbeats 400000 in
theorem implAtomOk_any (s : ByteArray) (w : World) (hs : s.size ≤ 1000000000) :
    Calls Tryd.prog 20 #[.string s] w fun e w' => e = .returned (.bool (atomOk s.data.toList)) ∧ w' = w := by
  have AL := Lib.hid (fun w => all_any 50 atomB fits_inAtom s w hs)
  by_cases h0 : s.size = 0
  · have e : s = ⟨#[]⟩ := by
      apply ByteArray.ext
      apply Array.ext'
      exact List.eq_nil_of_length_eq_zero (by simpa using h0)
    subst e
    clear h0
    go_enter Tryd.func20, Tryd.ntmps20
    go_wp2_with fail
    go_ret
    exact ⟨rfl, rfl⟩
  · have hne : s.data.toList.isEmpty = false := by
      cases h : s.data.toList with
      | nil =>
        have : s.data.toList.length = s.size := by simp
        rw [h] at this
        simp at this
        omega
      | cons x l => rfl
    have hemp : s.toList.isEmpty = false := by rw [Lib.toList_data]; exact hne
    have HA : Hid (atomOk s.data.toList = s.data.toList.all atomB) := Lib.hid (by unfold atomOk; rw [hne]; simp)
    generalize atomOk s.data.toList = R at HA
    generalize s.data.toList.all atomB = V at AL HA
    clear hne h0
    go_enter Tryd.func20, Tryd.ntmps20
    go_wp2_with fail
    refine (AL.out _).mono ?_
    rintro e w1 ⟨rfl, rfl⟩
    go_wp2_with fail
    go_ret
    exact ⟨by rw [HA.out]; rfl, rfl⟩
end Go.Proofs.YtconopkmiicjeaaDoor
