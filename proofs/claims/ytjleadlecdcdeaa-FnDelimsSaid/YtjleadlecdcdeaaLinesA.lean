/-
  Plain: where the line ends of a text stand, and how many parts it has between them.
-/
import Derived.Test.YtjleadlecdcdeaaPieces
namespace Go.Proofs.Ytjleadlecdcdeaa
set_option linter.unusedVariables false
open Go.RowKit

def crlf : ByteArray := ⟨#[13, 10]⟩
def occC (s : ByteArray) (k : Nat) : Bool := Lib.occAt s.data.toList crlf.data.toList k
/-- Line ends that begin ahead of k, and the place behind the last of them. -/
def crF (s : ByteArray) : Nat → Nat × Nat
  | 0 => (0, 0)
  | k + 1 => if occC s k then ((crF s k).1 + 1, k + 2) else crF s k
theorem crF_yes {s : ByteArray} {k : Nat} (h : occC s k = true) : crF s (k + 1) = ((crF s k).1 + 1, k + 2) := by simp [crF, h]
theorem crF_no {s : ByteArray} {k : Nat} (h : occC s k = false) : crF s (k + 1) = crF s k := by simp [crF, h]
theorem crF_run {s : ByteArray} (a : Nat) : ∀ d, (∀ j, a ≤ j → j < a + d → occC s j = false) → crF s (a + d) = crF s a := by
  intro d
  induction d with
  | zero => intro _; rfl
  | succ d ih =>
    intro h
    rw [← Nat.add_assoc, crF_no (h (a + d) (by omega) (by omega))]
    exact ih (fun j h1 h2 => h j h1 (by omega))
theorem occC_iff (s : ByteArray) (k : Nat) : occC s k = true ↔ s.data.toList[k]? = some 13 ∧ s.data.toList[k + 1]? = some 10 := by
  unfold occC Lib.occAt crlf
  rw [List.isPrefixOf_iff_prefix]
  constructor
  · rintro ⟨t, ht⟩
    have h0 : (s.data.toList.drop k)[0]? = some 13 := by rw [← ht]; rfl
    have h1 : (s.data.toList.drop k)[1]? = some 10 := by rw [← ht]; rfl
    rw [List.getElem?_drop] at h0 h1
    exact ⟨h0, h1⟩
  · rintro ⟨h0, h1⟩
    refine ⟨s.data.toList.drop (k + 2), ?_⟩
    obtain ⟨a, ha⟩ := List.getElem?_eq_some_iff.1 h0
    obtain ⟨b, hb⟩ := List.getElem?_eq_some_iff.1 h1
    rw [List.drop_eq_getElem_cons a, List.drop_eq_getElem_cons b, ha, hb]
    rfl
theorem occC_next {s : ByteArray} {k : Nat} (h : occC s k = true) : occC s (k + 1) = false := by
  rw [← Bool.not_eq_true]
  intro h2
  have := ((occC_iff s k).1 h).2
  rw [((occC_iff s (k + 1)).1 h2).1] at this
  cases this
theorem occC_late {s : ByteArray} {k : Nat} (h : s.size ≤ k + 1) : occC s k = false := by
  rw [← Bool.not_eq_true]
  intro h2
  have := ((occC_iff s k).1 h2).2
  obtain ⟨a, _⟩ := List.getElem?_eq_some_iff.1 this
  simp at a
  omega

theorem occ_suffix (s m : ByteArray) (o j : Nat) (ho : o ≤ s.size) : Lib.occAt (s.extract o s.size).data.toList m.data.toList j = Lib.occAt s.data.toList m.data.toList (o + j) := by
  unfold Lib.occAt
  rw [Lib.extract_data, List.drop_take, List.drop_drop]
  congr 1
  rw [List.take_of_length_le (by simp; omega)]

/-- What the parts of a suffix tell of the line ends from there on. -/
theorem pcs_lines (s : ByteArray) : ∀ (q : ByteArray) (ps : List ByteArray), Pcs crlf q ps → ∀ o n, o ≤ s.size → q = s.extract o s.size → crF s o = (n, o) →
    ∃ last, ps.getLast? = some last ∧ last.size ≤ s.size ∧ crF s s.size = (n + ps.length - 1, s.size - last.size) := by
  intro q ps hp
  induction hp with
  | last r h =>
    intro o n ho hq hf
    subst hq
    refine ⟨_, rfl, by simp, ?_⟩
    have : crF s (o + (s.size - o)) = crF s o := crF_run o (s.size - o) (fun j h1 h2 => by
      have := index_neg _ _ h (j - o) (by simp; omega)
      rw [occ_suffix s crlf o _ ho, show o + (j - o) = j by omega] at this
      exact this)
    rw [show o + (s.size - o) = s.size by omega] at this
    rw [this, hf]
    simp
    omega
  | more r i ps h hi _ ih =>
    intro o n ho hq hf
    subst hq
    obtain ⟨h1, h2, h3⟩ := index_facts _ _ _ h
    have hroom : i + 2 ≤ s.size - o := by
      have : crlf.size = 2 := rfl
      rw [this] at hi
      simpa using hi
    have hocc : occC s (o + i) = true := by rw [occ_suffix s crlf o i ho] at h2; exact h2
    have hrun : crF s (o + i) = crF s o := crF_run o i (fun j g1 g2 => by
      have := h3 (j - o) (by omega)
      rw [occ_suffix s crlf o _ ho, show o + (j - o) = j by omega] at this
      exact this)
    have hstep : crF s (o + i + 2) = (n + 1, o + i + 2) := by
      rw [show o + i + 2 = (o + i + 1) + 1 from rfl, crF_no (occC_next hocc), crF_yes hocc, hrun, hf]
    obtain ⟨last, g1, g2, g3⟩ := ih (o + i + 2) (n + 1) (by omega) (by
      have : crlf.size = 2 := rfl
      rw [this]
      apply ByteArray.ext
      apply Array.ext'
      rw [Lib.extract_data, Lib.extract_data, Lib.extract_data, List.drop_take, List.drop_drop, List.take_take]
      simp
      congr 1
      omega) hstep
    refine ⟨last, ?_, g2, ?_⟩
    · rw [List.getLast?_cons, g1]; rfl
    · rw [g3]
      simp
end Go.Proofs.Ytjleadlecdcdeaa
