/-
  Words: the walk of spec's GetWord.
-/
import Derived.Test.YtconopkmiicjeaaDoorWdL
namespace Go.Proofs.YtconopkmiicjeaaDoor
set_option linter.unusedVariables false
open Go.RowKit

/-- Where a run of an atom's bytes ends. -/
def runGo (l : List UInt8) : Nat → Nat → Nat
  | 0, k => k
  | n + 1, k => if k < l.length ∧ atomB (l.getD k 0) = true then runGo l n (k + 1) else k
theorem runGo_end (l : List UInt8) (n k : Nat) (h : ¬ (k < l.length ∧ atomB (l.getD k 0) = true)) : runGo l n k = k := by
  cases n with
  | zero => rfl
  | succ n => rw [runGo, if_neg h]
def atomAt (s : ByteArray) (a : Nat) : Option (List UInt8 × Nat) :=
  let k := runGo s.data.toList s.size a
  if k = a then none else some ((s.extract a k).data.toList, k)
def toldAt (s : ByteArray) (r : Option (Int × Nat)) : Option (List UInt8 × Nat) :=
  match r with
  | none => none
  | some (v, j) => if s.size < j + v.toNat ∨ hasL 0 (s.extract j (j + v.toNat)).data.toList = true then none else some ((s.extract j (j + v.toNat)).data.toList, j + v.toNat)
/-- The word at a place. -/
def wordAt (s : ByteArray) (a : Nat) : Option (List UInt8 × Nat) :=
  if s.data.toList.getD a 0 = 34 then quotedAt s.data.toList a else
  if s.data.toList.getD a 0 = 123 then toldAt s (lenAt s a) else atomAt s a
def getWd (s : ByteArray) (p : Int) : Option (List UInt8 × Nat) := if 0 ≤ p ∧ p ≤ (s.size : Int) - 1 then wordAt s p.toNat else none
theorem lenAt_facts {s : ByteArray} {a j : Nat} {v : Int} (h : lenAt s a = some (v, j)) : 0 ≤ v ∧ v ≤ 400 ∧ j ≤ s.size := by
  unfold lenAt at h
  dsimp only at h
  split at h
  · cases h
  · split at h
    · cases h
    · rename_i hn
      injection h with h
      injection h with h1 h2
      subst h1 h2
      simp only [not_or] at hn
      omega

set_option maxRecDepth 100000 in
set_option maxHeartbeats 4000000 in
theorem specGetWord_any (s : ByteArray) (p : Int) (w : World) (hs : s.size ≤ 1048576) (hp1 : -9223372036854775808 ≤ p) (hp2 : p ≤ 9223372036854775807) :
    Calls Tryd.prog 19 #[.string s, .int .i64 p] w (TellsWord (getWd s p) w) := by
  obtain ⟨T, hT⟩ : ∃ T, getWd s p = T := ⟨_, rfl⟩
  rw [hT]
  unfold getWd at hT
  by_cases hin : 0 ≤ p ∧ p ≤ (s.size : Int) - 1
  · rw [if_pos hin] at hT
    obtain ⟨a, rfl⟩ : ∃ a : Nat, p = a := ⟨p.toNat, by omega⟩
    obtain ⟨h1, h2⟩ := hin
    have ha : a < s.size := by omega
    rw [Int.toNat_natCast] at hT
    unfold wordAt at hT
    rw [byte_at s a ha] at hT
    by_cases h34 : s[a] = 34
    · rw [if_pos h34] at hT
      have t1 : ((s[a].toNat : Int) == 34) = true := by rw [h34]; rfl
      have QU := Lib.hid (fun w => quoted_any s a w (by omega) ha)
      rw [hT] at QU
      clear hT h34
      go_enter Tryd.func19, Tryd.ntmps19
      go_wp2_with fail
      refine (in_yes _ _ _ _ (by omega) (by omega)).mono ?_
      rintro e w1 ⟨rfl, rfl⟩
      go_wp2_with fail
      refine (QU.out _).mono ?_
      rintro e w2 ⟨he, hB2⟩
      rcases he with ⟨o, j, rfl, rfl⟩ | ⟨rfl, rfl⟩
      · go_wp2_with fail
        go_ret2
        exact ⟨.inl ⟨o, j, rfl, rfl⟩, hB2⟩
      · go_wp2_with fail
        go_ret2
        exact ⟨.inr ⟨rfl, rfl⟩, hB2⟩
    rw [if_neg h34] at hT
    have t1 : ((s[a].toNat : Int) == 34) = false := ne_byte (b := 34) h34
    by_cases h123 : s[a] = 123
    · rw [if_pos h123] at hT
      have t2 : ((s[a].toNat : Int) == 123) = true := by rw [h123]; rfl
      have LE := Lib.hid (fun w => length_any s a w hs ha)
      cases hL : lenAt s a with
      | none =>
        rw [hL] at LE hT
        have HN : Hid (T = none) := Lib.hid hT.symm
        clear hT h34 h123 hL
        go_enter Tryd.func19, Tryd.ntmps19
        go_wp2_with fail
        refine (in_yes _ _ _ _ (by omega) (by omega)).mono ?_
        rintro e w1 ⟨rfl, rfl⟩
        go_wp2_with fail
        refine (LE.out _).mono ?_
        rintro e w2 ⟨he, hB2⟩
        rcases he with ⟨_, _, he, _⟩ | ⟨_, rfl⟩
        · cases he
        go_wp2_with fail
        go_ret2
        exact ⟨.inr ⟨HN.out, rfl⟩, hB2⟩
      | some r =>
        obtain ⟨v, j⟩ := r
        have hf := lenAt_facts hL
        obtain ⟨k, rfl⟩ : ∃ k : Nat, v = k := ⟨v.toNat, by omega⟩
        rw [hL] at LE hT
        unfold toldAt at hT
        dsimp only at hT
        rw [Int.toNat_natCast] at hT
        clear h34 h123 hL
        have hk4 : k ≤ 400 := by omega
        have hj : j ≤ s.size := hf.2.2
        clear hf
        have g0 : decide ((j : Int) < 0) = false := by simp
        have i5 : ((j : Int) + (k : Int)).toNat = j + k := by omega
        by_cases hroom : s.size < j + k
        · rw [if_pos (.inl hroom)] at hT
          have HN : Hid (T = none) := Lib.hid hT.symm
          have g1 : decide ((s.size : Int) < (j : Int) + (k : Int)) = true := by simp; omega
          clear hT
          go_enter Tryd.func19, Tryd.ntmps19
          go_wp2_with fail
          refine (in_yes _ _ _ _ (by omega) (by omega)).mono ?_
          rintro e w1 ⟨rfl, rfl⟩
          go_wp2_with fail
          refine (LE.out _).mono ?_
          rintro e w2 ⟨he, hB2⟩
          rcases he with ⟨_, _, he, rfl⟩ | ⟨he, _⟩
          rotate_left
          · cases he
          injection he with he
          injection he with he1 he2
          subst he1 he2
          go_wp2_with fail
          go_ret2
          exact ⟨.inr ⟨HN.out, rfl⟩, hB2⟩
        have g1 : decide ((s.size : Int) < (j : Int) + (k : Int)) = false := by simp; omega
        have HA := Lib.hid (fun w => has_any (s.extract j (j + k)) 0 w (by rw [ByteArray.size_extract]; omega))
        cases hh : hasL 0 (s.extract j (j + k)).data.toList with
        | true =>
          rw [hh] at HA
          rw [if_pos (.inr hh)] at hT
          have HN : Hid (T = none) := Lib.hid hT.symm
          clear hT hh
          go_enter Tryd.func19, Tryd.ntmps19
          go_wp2_with fail
          refine (in_yes _ _ _ _ (by omega) (by omega)).mono ?_
          rintro e w1 ⟨rfl, rfl⟩
          go_wp2_with fail
          refine (LE.out _).mono ?_
          rintro e w2 ⟨he, hB2⟩
          rcases he with ⟨_, _, he, rfl⟩ | ⟨he, _⟩
          rotate_left
          · cases he
          injection he with he
          injection he with he1 he2
          subst he1 he2
          go_wp2_with fail
          refine (HA.out _).mono ?_
          rintro e w3 ⟨rfl, rfl⟩
          go_wp2_with fail
          go_ret2
          exact ⟨.inr ⟨HN.out, rfl⟩, hB2⟩
        | false =>
          rw [hh] at HA
          rw [if_neg (by rw [hh]; simp; omega)] at hT
          have HN := Lib.hid hT
          clear hT hh
          go_enter Tryd.func19, Tryd.ntmps19
          go_wp2_with fail
          refine (in_yes _ _ _ _ (by omega) (by omega)).mono ?_
          rintro e w1 ⟨rfl, rfl⟩
          go_wp2_with fail
          refine (LE.out _).mono ?_
          rintro e w2 ⟨he, hB2⟩
          rcases he with ⟨_, _, he, rfl⟩ | ⟨he, _⟩
          rotate_left
          · cases he
          injection he with he
          injection he with he1 he2
          subst he1 he2
          go_wp2_with fail
          refine (HA.out _).mono ?_
          rintro e w3 ⟨rfl, rfl⟩
          go_wp2_with fail
          go_ret2
          exact ⟨.inl ⟨s.extract j (j + k), j + k, HN.out.symm, by simp⟩, hB2⟩
    rw [if_neg h123] at hT
    have t2 : ((s[a].toNat : Int) == 123) = false := ne_byte (b := 123) h123
    clear h34 h123
    unfold atomAt at hT
    dsimp only at hT
    obtain ⟨R, hR⟩ : ∃ R, runGo s.data.toList s.size a = R := ⟨_, rfl⟩
    rw [hR] at hT
    have HR := Lib.hid hR
    have HT := Lib.hid hT
    clear hT hR
    have AT := Lib.hid (fun (b : UInt8) w => atom_any b w)
    go_enter Tryd.func19, Tryd.ntmps19
    go_wp2_with fail
    refine (in_yes _ _ _ _ (by omega) (by omega)).mono ?_
    rintro e w1 ⟨rfl, rfl⟩
    go_wp2_with fail
    go_loopw [8] (fun i wr => ∃ (k n : Nat), a ≤ k ∧ k ≤ s.size ∧ s.size ≤ k + n ∧ i = .int .i64 (k : Int) ∧ Hid (runGo s.data.toList n k = R) ∧ wr = w1) (fun i _ => s.size - (intOf i).toNat)
    case atStart => exact ⟨a, s.size, by omega, by omega, by omega, rfl, HR, rfl⟩
    case round =>
      obtain ⟨k, n, hak, hk, hn, rfl, HG, rfl⟩ := hrel
      have hlen : s.data.toList.length = s.size := by simp
      by_cases hgo : k < s.size ∧ atomB (s.data.toList.getD k 0) = true
      · obtain ⟨hlt, hat⟩ := hgo
        obtain ⟨n, rfl⟩ : ∃ m, n = m + 1 := ⟨n - 1, by omega⟩
        have hg := HG.out
        rw [runGo, if_pos ⟨by omega, hat⟩] at hg
        rw [byte_at s k hlt] at hat
        have A1 := Lib.hid (fun w => AT.out s[k] w)
        rw [hat] at A1
        have HG2 := Lib.hid hg
        clear hg hat hlen
        have g1 : decide ((k : Int) < (s.size : Int)) = true := by simp; omega
        go_wp2_with fail
        refine (A1.out _).mono ?_
        rintro e w2 ⟨rfl, rfl⟩
        go_wp2_with fail
        go_roundw
        case rel => exact ⟨k + 1, n, by omega, by omega, by omega, by go_num, HG2, trivial⟩
        case measure => simp [intOf]; omega
      · have hR : k = R := by rw [← HG.out, runGo_end _ _ _ (by rw [hlen]; exact hgo)]
        have i6 : ((k : Int)).toNat = k := by omega
        by_cases hlt : k < s.size
        · have hat : atomB (s.data.toList.getD k 0) = false := by
            cases hc : atomB (s.data.toList.getD k 0) with
            | false => rfl
            | true => exact absurd ⟨hlt, hc⟩ hgo
          rw [byte_at s k hlt] at hat
          have A1 := Lib.hid (fun w => AT.out s[k] w)
          rw [hat] at A1
          have HK := Lib.hid hR
          clear hR hat hgo hlen
          have g1 : decide ((k : Int) < (s.size : Int)) = true := by simp; omega
          by_cases hka : k = a
          · have g2 : ((k : Int) == (a : Int)) = true := by rw [beq_iff_eq]; omega
            have HN : Hid (T = none) := Lib.hid (by rw [← HT.out, if_pos (by rw [← HK.out]; exact hka)])
            clear hka
            go_wp2_with fail
            refine (A1.out _).mono ?_
            rintro e w2 ⟨rfl, rfl⟩
            go_wp2_with fail
            go_ret2
            exact ⟨.inr ⟨HN.out, rfl⟩, Below.refl _ _⟩
          · have g2 : ((k : Int) == (a : Int)) = false := by rw [beq_eq_false_iff_ne]; omega
            have HN := Lib.hid (by rw [← HT.out, if_neg (by rw [← HK.out]; exact hka), ← HK.out] : T = some ((s.extract a k).data.toList, k))
            clear hka
            go_wp2_with fail
            refine (A1.out _).mono ?_
            rintro e w2 ⟨rfl, rfl⟩
            go_wp2_with fail
            go_ret2
            exact ⟨.inl ⟨s.extract a k, k, HN.out, rfl⟩, Below.refl _ _⟩
        · have hks : k = s.size := by omega
          have HK := Lib.hid hR
          clear hR hgo hlen
          have g1 : decide ((k : Int) < (s.size : Int)) = false := by simp; omega
          have g2 : ((k : Int) == (a : Int)) = false := by rw [beq_eq_false_iff_ne]; omega
          have HN := Lib.hid (by rw [← HT.out, if_neg (by rw [← HK.out]; omega), ← HK.out] : T = some ((s.extract a k).data.toList, k))
          clear hks
          go_wp2_with fail
          go_ret2
          exact ⟨.inl ⟨s.extract a k, k, HN.out, rfl⟩, Below.refl _ _⟩
  · rw [if_neg hin] at hT
    have HN : Hid (T = none) := Lib.hid hT.symm
    clear hT
    have hno : p < 0 ∨ (s.size : Int) - 1 < p := by omega
    clear hin
    go_enter Tryd.func19, Tryd.ntmps19
    go_wp2_with fail
    refine (in_no _ _ _ _ hno).mono ?_
    rintro e w1 ⟨rfl, rfl⟩
    go_wp2_with fail
    go_ret2
    exact ⟨.inr ⟨HN.out, rfl⟩, Below.refl _ _⟩
end Go.Proofs.YtconopkmiicjeaaDoor
