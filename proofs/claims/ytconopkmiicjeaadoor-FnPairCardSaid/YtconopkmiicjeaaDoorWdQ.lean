/-
  Words: the walk of spec's l03Quoted.
-/
import Derived.Test.YtconopkmiicjeaaDoorWdA
namespace Go.Proofs.YtconopkmiicjeaaDoor
set_option linter.unusedVariables false
open Go.RowKit

/-- A quoted text from place i on, behind what is out. -/
def quotedGo (l : List UInt8) : Nat → Nat → List UInt8 → Option (List UInt8 × Nat)
  | 0, _, _ => none
  | n + 1, i, out => if i < l.length then
      (if l.getD i 0 = 34 then (if 400 < out.length ∨ plainAll out = false then none else some (out, i + 1))
        else if l.getD i 0 = 92 then (if i + 1 < l.length ∧ (l.getD (i + 1) 0 = 34 ∨ l.getD (i + 1) 0 = 92) then quotedGo l n (i + 2) (out ++ [l.getD (i + 1) 0]) else none)
          else quotedGo l n (i + 1) (out ++ [l.getD i 0])) else none
def quotedAt (l : List UInt8) (at' : Nat) : Option (List UInt8 × Nat) := quotedGo l l.length (at' + 1) []
theorem quotedGo_end (l : List UInt8) (n i : Nat) (out : List UInt8) (h : ¬ i < l.length) : quotedGo l n i out = none := by
  cases n with
  | zero => rfl
  | succ n => rw [quotedGo, if_neg h]
/-- A word and the place behind it; -1 where there is none. -/
def TellsWord (a : Option (List UInt8 × Nat)) (w : World) (e : Ending) (w' : World) : Prop :=
  ((∃ (o : ByteArray) (j : Nat), a = some (o.data.toList, j) ∧ e = .returned (.tuple #[.string o, .int .i64 (j : Int)])) ∨ (a = none ∧ e = .returned (.tuple #[.string ⟨#[]⟩, .int .i64 (-1)]))) ∧ Below w.heap.size w w'

set_option maxRecDepth 100000 in
set_option maxHeartbeats 2000000 in
theorem quoted_any (s : ByteArray) (a : Nat) (w : World) (hs : s.size ≤ 67108864) (ha : a < s.size) :
    Calls Tryd.prog 47 #[.string s, .int .i64 a] w (TellsWord (quotedAt s.data.toList a) w) := by
  obtain ⟨i0, hi, hz0, hz1, hz2⟩ := info_parts infoByteJ
  obtain ⟨T, hT⟩ : ∃ T, quotedAt s.data.toList a = T := ⟨_, rfl⟩
  rw [hT]
  have HT := Lib.hid hT
  clear hT
  have PL := Lib.hid (fun (u : ByteArray) w hu => plain_any u w hu)
  go_enter Tryd.func47, Tryd.ntmps47
  go_wp2
  go_loopw [6, 7] (fun o i wr => ∃ (k n : Nat) (L : List UInt8), k ≤ s.size + 1 ∧ s.size ≤ k + n ∧ i = .int .i64 (k : Int) ∧ Hid (quotedGo s.data.toList n k L = T) ∧ L.length ≤ k ∧ wr.ownsRow w.heap.size 5 1 o L.length (L.map bv) ∧ Below w.heap.size w wr) (fun _ i _ => s.size + 1 - (intOf i).toNat)
  case atStart => exact ⟨a + 1, s.size, [], by omega, by omega, by go_num, Lib.hid (by rw [← HT.out]; unfold quotedAt; simp), by simp, World.ownsRow_lit w #[] 0 (Nat.le_refl _) (by decide) rfl, (Below.refl _ _).alloc (Nat.le_refl _) _⟩
  case round =>
    obtain ⟨k, n, L, hk, hn, rfl, HP, hLl, hown, hB⟩ := hrel
    have hlen : s.data.toList.length = s.size := by simp
    have hsz := hB.size
    by_cases hlt : k < s.size
    · obtain ⟨n, rfl⟩ : ∃ m, n = m + 1 := ⟨n - 1, by omega⟩
      have hp := HP.out
      rw [quotedGo, if_pos (by omega), byte_at s k hlt] at hp
      by_cases h34 : s[k] = 34
      · have t1 : ((s[k].toNat : Int) == 34) = true := by rw [h34]; rfl
        rw [if_pos h34] at hp
        have hcase := rowJ_form hown
        have PLL := Lib.hid (fun w => PL.out ⟨L.toArray⟩ w (by show L.toArray.size ≤ _; rw [List.size_toArray]; omega))
        have hback := rowJ_back (P := Tryd.prog) hown 22 9 5 Tryd.underlying22 Tryd.underlying5 Tryd.underlying9
        by_cases h4 : 400 < L.length
        · rw [if_pos (.inl h4)] at hp
          have HN := Lib.hid hp
          have g4 : decide ((400 : Int) < (L.length : Int)) = true := by simp; omega
          clear hp h34 hown hback
          rcases hcase with ⟨rfl, h⟩ | ⟨g, cap, rfl, _⟩
          · omega
          · go_wp2_with fail
            go_ret2
            exact ⟨.inr ⟨HN.out.symm, rfl⟩, hB⟩
        · have g4 : decide ((400 : Int) < (L.length : Int)) = false := by simp; omega
          cases hpl : plainAll L with
          | true =>
            rw [if_neg (by rw [hpl]; simp; omega)] at hp
            rw [show (⟨L.toArray⟩ : ByteArray).data.toList = L from rfl, hpl] at PLL
            have HN := Lib.hid hp
            clear hp h34 hpl hown
            rcases hcase with ⟨rfl, h⟩ | ⟨g, cap, rfl, _⟩
            · have hz : L = [] := List.eq_nil_of_length_eq_zero h
              subst hz
              go_wp2_with fail
              refine (PLL.out _).mono ?_
              rintro e w1 ⟨rfl, rfl⟩
              go_wp2_with fail
              go_ret2
              exact ⟨.inl ⟨⟨#[]⟩, k + 1, HN.out.symm, by simp⟩, hB⟩
            · generalize hLL : (⟨L.toArray⟩ : ByteArray) = LL at hback PLL
              have HLL := Lib.hid hLL
              clear hLL
              go_wp2_with fail
              refine (PLL.out _).mono ?_
              rintro e w1 ⟨rfl, rfl⟩
              go_wp2_with fail
              go_ret2
              exact ⟨.inl ⟨LL, k + 1, by rw [← HN.out, ← HLL.out], by simp⟩, hB⟩
          | false =>
            rw [if_pos (.inr hpl)] at hp
            rw [show (⟨L.toArray⟩ : ByteArray).data.toList = L from rfl, hpl] at PLL
            have HN := Lib.hid hp
            clear hp h34 hpl hown
            rcases hcase with ⟨rfl, h⟩ | ⟨g, cap, rfl, _⟩
            · have hz : L = [] := List.eq_nil_of_length_eq_zero h
              subst hz
              go_wp2_with fail
              refine (PLL.out _).mono ?_
              rintro e w1 ⟨rfl, rfl⟩
              go_wp2_with fail
              go_ret2
              exact ⟨.inr ⟨HN.out.symm, rfl⟩, hB⟩
            · generalize (⟨L.toArray⟩ : ByteArray) = LL at hback PLL
              go_wp2_with fail
              refine (PLL.out _).mono ?_
              rintro e w1 ⟨rfl, rfl⟩
              go_wp2_with fail
              go_ret2
              exact ⟨.inr ⟨HN.out.symm, rfl⟩, hB⟩
      · rw [if_neg h34] at hp
        have t1 : ((s[k].toNat : Int) == 34) = false := ne_byte (b := 34) h34
        by_cases h92 : s[k] = 92
        · rw [if_pos h92] at hp
          have t2 : ((s[k].toNat : Int) == 92) = true := by rw [h92]; rfl
          by_cases hmore : k + 1 < s.size
          · rw [byte_at s (k + 1) hmore] at hp
            have t0 : ((k : Int) + 1 == (s.size : Int)) = false := by rw [beq_eq_false_iff_ne]; omega
            have i3 : (k : Int) + 1 < (s.size : Int) := by omega
            by_cases n34 : s[k + 1] = 34
            · rw [if_pos ⟨by omega, .inl n34⟩] at hp
              have u1 : ((s[k + 1].toNat : Int) != 34) = false := by rw [n34]; rfl
              clear n34
              have HST := Lib.hid hp
              clear hp h92 h34 hlen
              go_wp2_with (first | (at_builtin; refine wpList_append_own _ rfl _ _ 22 rfl w.heap.size 5 i0 (.int .u8 0) 1 1 Tryd.underlying22 hi hz0 hz1 hz2 rfl (by decide) _ _ _ rfl (hown.alloc _) ⟨wr.heap.size, 0, none⟩ 1 1 [.int .u8 (s[k + 1].toNat : Int)] rfl rfl (cell_one_new _ _ _) (by simp [Value.oneCell']) (by unfold maxLen; omega) (by omega) (by simp; omega) ?_; intro v3 w3 hO3 hg3 _; have hB3 : Below w.heap.size w w3 := (hB.alloc hsz _).grown hg3 (by simp; omega) (fun k e => (hown.lt k e).1)))
              have hrow : w3.ownsRow w.heap.size 5 1 v3 (L ++ [s[k + 1]]).length ((L ++ [s[k + 1]]).map bv) := by
                have h := hO3
                simpa [bv] using h
              go_roundw
              case rel => exact ⟨k + 2, n, L ++ [s[k + 1]], by omega, by omega, by go_num, HST, by simp; omega, hrow, hB3⟩
              case measure => simp [intOf]; omega
            · have u1 : ((s[k + 1].toNat : Int) != 34) = true := by rw [bne, show ((s[k + 1].toNat : Int) == 34) = false from ne_byte (b := 34) n34]; rfl
              by_cases n92 : s[k + 1] = 92
              · rw [if_pos ⟨by omega, .inr n92⟩] at hp
                have u2 : ((s[k + 1].toNat : Int) != 92) = false := by rw [n92]; rfl
                clear n34 n92
                have HST := Lib.hid hp
                clear hp h92 h34 hlen
                go_wp2_with (first | (at_builtin; refine wpList_append_own _ rfl _ _ 22 rfl w.heap.size 5 i0 (.int .u8 0) 1 1 Tryd.underlying22 hi hz0 hz1 hz2 rfl (by decide) _ _ _ rfl (hown.alloc _) ⟨wr.heap.size, 0, none⟩ 1 1 [.int .u8 (s[k + 1].toNat : Int)] rfl rfl (cell_one_new _ _ _) (by simp [Value.oneCell']) (by unfold maxLen; omega) (by omega) (by simp; omega) ?_; intro v3 w3 hO3 hg3 _; have hB3 : Below w.heap.size w w3 := (hB.alloc hsz _).grown hg3 (by simp; omega) (fun k e => (hown.lt k e).1)))
                have hrow : w3.ownsRow w.heap.size 5 1 v3 (L ++ [s[k + 1]]).length ((L ++ [s[k + 1]]).map bv) := by
                  have h := hO3
                  simpa [bv] using h
                go_roundw
                case rel => exact ⟨k + 2, n, L ++ [s[k + 1]], by omega, by omega, by go_num, HST, by simp; omega, hrow, hB3⟩
                case measure => simp [intOf]; omega
              · have u2 : ((s[k + 1].toNat : Int) != 92) = true := by rw [bne, show ((s[k + 1].toNat : Int) == 92) = false from ne_byte (b := 92) n92]; rfl
                rw [if_neg (by simp [n34, n92])] at hp
                have HN := Lib.hid hp
                clear hp n34 n92 h34 h92
                go_wp2_with fail
                go_ret2
                exact ⟨.inr ⟨HN.out.symm, rfl⟩, hB⟩
          · rw [if_neg (by omega)] at hp
            have HN := Lib.hid hp
            have t0 : ((k : Int) + 1 == (s.size : Int)) = true := by rw [beq_iff_eq]; omega
            clear hp h34 h92
            go_wp2_with fail
            go_ret2
            exact ⟨.inr ⟨HN.out.symm, rfl⟩, hB⟩
        · rw [if_neg h92] at hp
          have t2 : ((s[k].toNat : Int) == 92) = false := ne_byte (b := 92) h92
          have HST := Lib.hid hp
          clear hp h34 h92 hlen
          go_wp2_with (first | (at_builtin; refine wpList_append_own _ rfl _ _ 22 rfl w.heap.size 5 i0 (.int .u8 0) 1 1 Tryd.underlying22 hi hz0 hz1 hz2 rfl (by decide) _ _ _ rfl (hown.alloc _) ⟨wr.heap.size, 0, none⟩ 1 1 [.int .u8 (s[k].toNat : Int)] rfl rfl (cell_one_new _ _ _) (by simp [Value.oneCell']) (by unfold maxLen; omega) (by omega) (by simp; omega) ?_; intro v3 w3 hO3 hg3 _; have hB3 : Below w.heap.size w w3 := (hB.alloc hsz _).grown hg3 (by simp; omega) (fun k e => (hown.lt k e).1)))
          have hrow : w3.ownsRow w.heap.size 5 1 v3 (L ++ [s[k]]).length ((L ++ [s[k]]).map bv) := by
            have h := hO3
            simpa [bv] using h
          go_roundw
          case rel => exact ⟨k + 1, n, L ++ [s[k]], by omega, by omega, by go_num, HST, by simp; omega, hrow, hB3⟩
          case measure => simp [intOf]; omega
    · have hp := HP.out
      rw [quotedGo_end _ _ _ _ (by omega)] at hp
      have HN := Lib.hid hp
      have i9 : decide ((k : Int) < (s.size : Int)) = false := by simp; omega
      clear hp
      go_wp2_with fail
      go_ret2
      exact ⟨.inr ⟨HN.out.symm, rfl⟩, hB⟩
end Go.Proofs.YtconopkmiicjeaaDoor
