/-
  A scope with several labels: what holds at each jump, and a measure that every pass lowers.
-/
import Derived.Scope
import Derived.WalkKit
namespace Go.Proofs.YtconopkmiicjeaaDoor
open Go

/-- By a goto to a label: what holds there; else as Q. -/
def jumpsTo (J : Nat → Act → World → Prop) (Q : Exit → Act → World → Prop) : Exit → Act → World → Prop
  | .goto l, a, w => J l a w
  | e, a, w => Q e a w

theorem wp_scope_gotos {P : Program} {a : Act} {w : World} {Q : Exit → Act → World → Prop} {c X0 : Code} (l0 : Nat) (J : Nat → Act → World → Prop) (μ : Nat → Act → World → Nat)
    (hf0 : findLabel c l0 = some (.seq .skip X0))
    (hpre : ∀ Q' : Exit → Act → World → Prop, (∀ a w, J l0 a w → X0.wp P Q' a w) → c.wp P Q' a w)
    (pass : ∀ l a w, J l a w → ∃ X, findLabel c l = some (.seq .skip X) ∧ X.wp P (jumpsTo (fun l' a' w' => J l' a' w' ∧ μ l' a' w' < μ l a w) Q) a w) : (Code.scope c).wp P Q a w := by
  intro b k cs
  have key : ∀ n l a w X, μ l a w = n → J l a w → findLabel c l = some (.seq .skip X) → ∃ e a' w', Q e a' w' ∧ Arrives P (lone (b.at a (.code X :: .inScope c :: k)) cs w) b k cs e a' w' := by
    intro n
    induction n using Nat.strongRecOn with
    | _ n ih =>
      intro l a w X hn hJ hX
      obtain ⟨X', hX', hwp⟩ := pass l a w hJ
      rw [hX] at hX'
      injection hX' with hX'
      injection hX' with _ hX'
      subst hX'
      obtain ⟨e, a₁, w₁, hq, harr⟩ := hwp b (.inScope c :: k) cs
      cases e with
      | normal => exact ⟨.normal, a₁, w₁, hq, Steps.trans harr (.one step_inScope)⟩
      | exit id => exact ⟨.exit id, a₁, w₁, hq, fun k' hk => harr k' (by simp [exitTo, hk])⟩
      | goto l' =>
        obtain ⟨hJ', hlt⟩ := hq
        obtain ⟨X2, hX2, _⟩ := pass l' a₁ w₁ hJ'
        obtain ⟨e₂, a₂, w₂, hq₂, harr₂⟩ := ih _ (by omega) l' a₁ w₁ X2 rfl hJ' hX2
        refine ⟨e₂, a₂, w₂, hq₂, .of_steps (harr (.code (.seq .skip X2) :: .inScope c :: k) (by simp [gotoIn, hX2])) ?_⟩
        exact .of_steps (.head step_seq (.one step_skip)) harr₂
      | ret => exact ⟨_, a₁, w₁, hq, harr⟩
      | panic ch => exact ⟨_, a₁, w₁, hq, harr⟩
      | outgrown => exact ⟨_, a₁, w₁, hq, harr⟩
  have first := hpre (jumpsTo J Q) (fun a w hJ => by
    obtain ⟨X, hX, hwp⟩ := pass l0 a w hJ
    rw [hf0] at hX
    injection hX with hX
    injection hX with _ hX
    subst hX
    refine Code.wp_mono (fun e a w q => ?_) hwp
    cases e with
    | goto l => exact q.1
    | normal => exact q
    | exit id => exact q
    | ret => exact q
    | panic ch => exact q
    | outgrown => exact q)
  obtain ⟨e, a₁, w₁, hq, harr⟩ := first b (.inScope c :: k) cs
  cases e with
  | normal => exact ⟨.normal, a₁, w₁, hq, .head step_scope (Steps.trans harr (.one step_inScope))⟩
  | exit id => exact ⟨.exit id, a₁, w₁, hq, fun k' hk => .head step_scope (harr k' (by simp [exitTo, hk]))⟩
  | goto l' =>
    obtain ⟨X2, hX2, _⟩ := pass l' a₁ w₁ hq
    obtain ⟨e₂, a₂, w₂, hq₂, harr₂⟩ := key _ l' a₁ w₁ X2 rfl hq hX2
    refine ⟨e₂, a₂, w₂, hq₂, .of_steps (.head step_scope (harr (.code (.seq .skip X2) :: .inScope c :: k) (by simp [gotoIn, hX2]))) ?_⟩
    exact .of_steps (.head step_seq (.one step_skip)) harr₂
  | ret => exact ⟨_, a₁, w₁, hq, .of_steps (.one step_scope) harr⟩
  | panic ch => exact ⟨_, a₁, w₁, hq, .of_steps (.one step_scope) harr⟩
  | outgrown => exact ⟨_, a₁, w₁, hq, .of_steps (.one step_scope) harr⟩
end Go.Proofs.YtconopkmiicjeaaDoor
