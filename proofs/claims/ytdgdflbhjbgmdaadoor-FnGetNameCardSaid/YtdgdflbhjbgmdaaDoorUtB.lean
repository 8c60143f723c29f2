/-
  Texts that are all signs are signs, one behind the other: plain lists of bytes.
-/
import Derived.Test.YtdgdflbhjbgmdaaDoorUtA
namespace Go.Proofs.YtdgdflbhjbgmdaaDoor
set_option linter.unusedVariables false
open Go.RowKit

def AllScalar (cs : List Nat) : Prop := ∀ c ∈ cs, Scalar c
def bytesOf (cs : List Nat) : List UInt8 := cs.flatMap putL
theorem bytesOf_cons (c : Nat) (cs : List Nat) : bytesOf (c :: cs) = putL c ++ bytesOf cs := rfl
theorem bytesOf_app (a b : List Nat) : bytesOf (a ++ b) = bytesOf a ++ bytesOf b := by simp [bytesOf]
theorem valid_put (c : Nat) (rest : List UInt8) (hc : Scalar c) : Lib.validD (putL c ++ rest) = Lib.validD rest := by
  have hne : putL c ++ rest ≠ [] := by
    intro e
    exact put_ne c hc (List.append_eq_nil_iff.1 e).1
  rw [Lib.validD_step _ hne, dec_put c rest hc, if_neg (put_good c hc), List.drop_left]
theorem valid_signs (cs : List Nat) (rest : List UInt8) (h : AllScalar cs) : Lib.validD (bytesOf cs ++ rest) = Lib.validD rest := by
  induction cs with
  | nil => rfl
  | cons c cs ih =>
    rw [bytesOf_cons, List.append_assoc, valid_put c _ (h c (List.mem_cons_self ..))]
    exact ih (fun d hd => h d (List.mem_cons_of_mem _ hd))
theorem signs_of : ∀ (n : Nat) (l : List UInt8), l.length ≤ n → Lib.validD l = true → ∃ cs, AllScalar cs ∧ l = bytesOf cs := by
  intro n
  induction n with
  | zero =>
    intro l hl _
    obtain rfl := List.eq_nil_of_length_eq_zero (Nat.le_zero.1 hl)
    exact ⟨[], (fun c hc => nomatch hc), rfl⟩
  | succ n ih =>
    intro l hl hv
    by_cases hne : l = []
    · exact ⟨[], (fun c hc => nomatch hc), hne⟩
    · rw [Lib.validD_step l hne] at hv
      split at hv
      · cases hv
      · rename_i hg
        obtain ⟨h1, h2, h3⟩ := dec_sound l hne hg
        have hge : 1 ≤ (Lib.decodeL l).2 := by rw [Lib.decodeL_N]; exact Lib.decodeN_ge1 _ _ _ _ _
        obtain ⟨cs, h4, h5⟩ := ih _ (by rw [List.length_drop]; omega) hv
        refine ⟨(Lib.decodeL l).1 :: cs, ?_, ?_⟩
        · intro c hc
          rcases List.mem_cons.1 hc with rfl | hc
          · exact h1
          · exact h4 c hc
        · rw [bytesOf_cons, ← h5]
          exact h2
theorem valid_iff (l : List UInt8) : Lib.validD l = true ↔ ∃ cs, AllScalar cs ∧ l = bytesOf cs := by
  constructor
  · exact signs_of l.length l (Nat.le_refl _)
  · rintro ⟨cs, h, rfl⟩
    have := valid_signs cs [] h
    rw [List.append_nil] at this
    rw [this]
    rfl
theorem valid_app (a b : List UInt8) (h : Lib.validD a = true) : Lib.validD (a ++ b) = Lib.validD b := by
  obtain ⟨cs, h1, rfl⟩ := (valid_iff a).1 h
  exact valid_signs cs b h1
theorem put_low (c : Nat) (b : UInt8) (h : b ∈ putL c) : b.toNat ≤ 247 := by
  have nat : ∀ x : Nat, x < 256 → (UInt8.ofNat x).toNat = x := fun x hx => by rw [UInt8.toNat_ofNat', Nat.mod_eq_of_lt hx]
  have sx : ∀ n : Nat, (six n).toNat = 128 + n % 64 := fun n => nat _ (by omega)
  by_cases hs : Scalar c
  · unfold Scalar at hs
    by_cases h1 : c < 128
    · rw [put_one c h1] at h
      rw [List.mem_singleton.1 h, nat c (by omega)]
      omega
    · by_cases h2 : c < 2048
      · rw [put_two c (by omega) h2] at h
        rcases List.mem_cons.1 h with rfl | h
        · rw [nat _ (by omega)]; omega
        · rw [List.mem_singleton.1 h, sx]; omega
      · by_cases h3 : c < 65536
        · rw [put_three c (by omega) h3 (by omega)] at h
          rcases List.mem_cons.1 h with rfl | h
          · rw [nat _ (by omega)]; omega
          · rcases List.mem_cons.1 h with rfl | h
            · rw [sx]; omega
            · rw [List.mem_singleton.1 h, sx]; omega
        · rw [put_four c (by omega) (by omega)] at h
          rcases List.mem_cons.1 h with rfl | h
          · rw [nat _ (by omega)]; omega
          · rcases List.mem_cons.1 h with rfl | h
            · rw [sx]; omega
            · rcases List.mem_cons.1 h with rfl | h
              · rw [sx]; omega
              · rw [List.mem_singleton.1 h, sx]; omega
  · rw [put_none c hs] at h
    cases h
theorem valid_ff (a : List UInt8) (b : UInt8) (hb : 248 ≤ b.toNat) : Lib.validD (a ++ [b]) = false := by
  cases h : Lib.validD (a ++ [b]) with
  | false => rfl
  | true =>
    exfalso
    obtain ⟨cs, _, h2⟩ := (valid_iff _).1 h
    have hm : b ∈ bytesOf cs := by rw [← h2]; simp
    unfold bytesOf at hm
    obtain ⟨c, _, hc⟩ := List.mem_flatMap.1 hm
    have := put_low c b hc
    omega
/-- One way to read a text as signs. -/
theorem bytesOf_inj : ∀ (a b : List Nat), AllScalar a → AllScalar b → bytesOf a = bytesOf b → a = b := by
  intro a
  induction a with
  | nil =>
    intro b _ hb h
    cases b with
    | nil => rfl
    | cons c b =>
      exfalso
      rw [bytesOf_cons] at h
      exact put_ne c (hb c (List.mem_cons_self ..)) (List.append_eq_nil_iff.1 h.symm).1
  | cons c a ih =>
    intro b ha hb h
    have hc := ha c (List.mem_cons_self ..)
    cases b with
    | nil =>
      exfalso
      rw [bytesOf_cons] at h
      exact put_ne c hc (List.append_eq_nil_iff.1 h).1
    | cons d b =>
      have hd := hb d (List.mem_cons_self ..)
      rw [bytesOf_cons, bytesOf_cons] at h
      have e1 := dec_put c (bytesOf a) hc
      have e2 := dec_put d (bytesOf b) hd
      rw [h, e2] at e1
      obtain ⟨rfl, _⟩ := Prod.mk.injEq .. ▸ e1
      have h2 := List.append_cancel_left h
      rw [ih b (fun x hx => ha x (List.mem_cons_of_mem _ hx)) (fun x hx => hb x (List.mem_cons_of_mem _ hx)) h2]
end Go.Proofs.YtdgdflbhjbgmdaaDoor
