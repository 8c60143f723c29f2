/-
  The draws: what brings a drawn text to its end.
-/
import Derived.Test.YtdgdflbhjbgmdaaLcg
import Derived.Test.YtdgdflbhjbgmdaaBuf
import Derived.Maps.AppendAt
namespace Go.Proofs.Ytdgdflbhjbgmdaa
set_option linter.unusedVariables false
open Go.RowKit

theorem least_ex {P : Nat → Prop} (h : ∃ n, P n) : ∃ n, P n ∧ ∀ m, m < n → ¬ P m := by
  obtain ⟨n, hn⟩ := h
  induction n using Nat.strongRecOn with
  | _ n ih =>
    by_cases hm : ∃ m, m < n ∧ P m
    · obtain ⟨m, h1, h2⟩ := hm
      exact ih m h1 h2
    · exact ⟨n, hn, fun m h1 h2 => hm ⟨m, h1, h2⟩⟩

/-- A number behind which three draws below 5 in a row are 3, 4, 4. -/
def goodH : Int := -8100709956324362746
theorem good_comes (h : Int) : ∃ n : Nat, nextN h n = goodH := by
  obtain ⟨n, _, hn⟩ := nextN_comes h goodH (by unfold goodH; omega)
  exact ⟨n, hn⟩
noncomputable def wait0 (h : Int) : Nat := Classical.choose (least_ex (good_comes h))
theorem wait0_spec (h : Int) : nextN h (wait0 h) = goodH ∧ ∀ m, m < wait0 h → nextN h m ≠ goodH := Classical.choose_spec (least_ex (good_comes h))
theorem wait0_le (h : Int) : wait0 h ≤ 18446744073709551616 := by
  obtain ⟨n, h1, h2⟩ := nextN_comes h goodH (by unfold goodH; omega)
  rcases Nat.lt_or_ge n (wait0 h) with h3 | h3
  · exact absurd h2 ((wait0_spec h).2 n h3)
  · omega
theorem wait0_of (h : Int) (n : Nat) (e : nextN h n = goodH) : wait0 h ≤ n := by
  rcases Nat.lt_or_ge n (wait0 h) with h3 | h3
  · exact absurd e ((wait0_spec h).2 n h3)
  · exact h3
open Classical in
noncomputable def wait (h : Int) : Nat := if h = nextH goodH ∨ h = nextH (nextH goodH) then 0 else wait0 h
theorem wait_le0 (h : Int) : wait h ≤ wait0 h := by unfold wait; split <;> omega
theorem wait_le (h : Int) : wait h ≤ 18446744073709551616 := Nat.le_trans (wait_le0 h) (wait0_le h)
theorem nextN_more (h : Int) (n : Nat) : nextN h (n + 1) = nextN (nextH h) n := (nextN_in h n).symm

theorem wait_one {h : Int} (h1 : h ≠ goodH) (h2 : h ≠ nextH goodH) (h3 : h ≠ nextH (nextH goodH)) : wait (nextH h) < wait h := by
  have e : wait h = wait0 h := by unfold wait; rw [if_neg (by rintro (a | a); exact h2 a; exact h3 a)]
  rw [e]
  have hs := (wait0_spec h).1
  cases hw : wait0 h with
  | zero => rw [hw] at hs; exact absurd hs h1
  | succ n =>
    rw [hw, nextN_more] at hs
    have := wait0_of _ _ hs
    have := wait_le0 (nextH h)
    omega
theorem wait_three {h : Int} (h1 : h ≠ goodH) (h2 : h ≠ nextH goodH) (h3 : h ≠ nextH (nextH goodH)) : wait (nextH (nextH (nextH h))) < wait h := by
  have e : wait h = wait0 h := by unfold wait; rw [if_neg (by rintro (a | a); exact h2 a; exact h3 a)]
  rw [e]
  have hs := (wait0_spec h).1
  rcases hw : wait0 h with _ | _ | _ | n
  · rw [hw] at hs; exact absurd hs h1
  · rw [hw] at hs
    have : nextH h = goodH := hs
    unfold wait
    rw [if_pos (.inr (by rw [this]))]
    omega
  · rw [hw] at hs
    have : nextH (nextH h) = goodH := hs
    unfold wait
    rw [if_pos (.inl (by rw [this]))]
    omega
  · rw [hw, nextN_more, nextN_more, nextN_more] at hs
    have := wait0_of _ _ hs
    have := wait_le0 (nextH (nextH (nextH h)))
    omega

theorem good_vals : rawX (nextH goodH) % 5 = 3 ∧ rawX (nextH (nextH goodH)) % 5 = 4 ∧ rawX (nextH (nextH (nextH goodH))) % 5 = 4 := by decide +kernel

/-- Where a draw below 5 is 1 or 2, the number is none of the three. -/
theorem bad_ne {h : Int} (hv : rawX (nextH h) % 5 = 1 ∨ rawX (nextH h) % 5 = 2) : h ≠ goodH ∧ h ≠ nextH goodH ∧ h ≠ nextH (nextH goodH) := by
  obtain ⟨a, b, c⟩ := good_vals
  refine ⟨?_, ?_, ?_⟩ <;> (rintro rfl; omega)

def curI (g : Nat) (w : World) : Nat := (intOf ((w.cell? ⟨g, 1, none⟩).getD undef)).toNat
def curH (g : Nat) (w : World) : Int := intOf ((w.cell? ⟨g, 2, none⟩).getD undef)
def lenOf : Value → Nat | .slice _ n _ => n | _ => 0
/-- What goes down from round to round: first the bytes that are still to come, then the code's bytes, then the waiting. -/
noncomputable def textM (n : Nat) (K : Code) (g : Nat) (v : Value) (w : World) : Nat :=
  ((n - lenOf v) * 1048578 + (K.len - curI g w)) * 18446744073709551617 + wait (curH g w)
theorem textM_eq {K : Code} {w0 w : World} {g i : Nat} {h : Int} (c : Cur K w0 w g i h) (n : Nat) (v : Value) :
    textM n K g v w = ((n - lenOf v) * 1048578 + (K.len - i)) * 18446744073709551617 + wait h := by
  obtain ⟨_, hc1, hc2, _, _⟩ := cur_cells c
  unfold textM curI curH
  rw [hc1, hc2]
  simp [intOf]
theorem mul_lt_of {a b x y B : Nat} (h : a < b) (hx : x < B) : a * B + x < b * B + y := by
  have : (a + 1) * B ≤ b * B := Nat.mul_le_mul_right B h
  rw [Nat.add_mul] at this
  omega
theorem textM_len {K : Code} {w0 w w' : World} {g i i' : Nat} {h h' : Int} (c : Cur K w0 w g i h) (c' : Cur K w0 w' g i' h') (n : Nat) (v v' : Value) (hv : lenOf v < lenOf v') (hn : lenOf v < n) :
    textM n K g v' w' < textM n K g v w := by
  rw [textM_eq c, textM_eq c']
  have h1 := wait_le h'
  refine mul_lt_of ?_ (by omega)
  have : (n - lenOf v' + 1) * 1048578 ≤ (n - lenOf v) * 1048578 := Nat.mul_le_mul_right _ (by omega)
  have := c.few
  omega
theorem textM_code {K : Code} {w0 w w' : World} {g i i' : Nat} {h h' : Int} (c : Cur K w0 w g i h) (c' : Cur K w0 w' g i' h') (n : Nat) (v v' : Value) (hv : lenOf v ≤ lenOf v') (hi : i < i') (hi' : i' ≤ K.len) :
    textM n K g v' w' < textM n K g v w := by
  rw [textM_eq c, textM_eq c']
  have h1 := wait_le h'
  refine mul_lt_of ?_ (by omega)
  have : (n - lenOf v') * 1048578 ≤ (n - lenOf v) * 1048578 := Nat.mul_le_mul_right _ (by omega)
  omega
theorem textM_wait {K : Code} {w0 w w' : World} {g i : Nat} {h h' : Int} (c : Cur K w0 w g i h) (c' : Cur K w0 w' g i h') (n : Nat) (v v' : Value) (hv : lenOf v ≤ lenOf v') (hh : wait h' < wait h) :
    textM n K g v' w' < textM n K g v w := by
  rw [textM_eq c, textM_eq c']
  have h2 : ((n - lenOf v') * 1048578 + (K.len - i)) * 18446744073709551617 ≤ ((n - lenOf v) * 1048578 + (K.len - i)) * 18446744073709551617 :=
    Nat.mul_le_mul_right _ (Nat.add_le_add_right (Nat.mul_le_mul_right _ (by omega)) _)
  omega
end Go.Proofs.Ytdgdflbhjbgmdaa
