/-
  Plain: the parts of a text between the occurrences of one byte, gathered from left to right.
-/
import Derived.Test.YtmaoieceonlkoaaDoorPieces
namespace Go.Proofs.YtmaoieceonlkoaaDoor
set_option linter.unusedVariables false
open Go.RowKit

def occB (s : ByteArray) (b : UInt8) (k : Nat) : Bool := s.data.toList[k]? == some b
/-- What has been gathered ahead of k, and where the next part begins. -/
def spF (s : ByteArray) (b : UInt8) : Nat → List ByteArray × Nat
  | 0 => ([], 0)
  | k + 1 => if occB s b k then ((spF s b k).1 ++ [s.extract (spF s b k).2 k], k + 1) else spF s b k
def splitAll (s : ByteArray) (b : UInt8) : List ByteArray := (spF s b s.size).1 ++ [s.extract (spF s b s.size).2 s.size]
theorem spF_yes {s : ByteArray} {b : UInt8} {k : Nat} (h : occB s b k = true) : spF s b (k + 1) = ((spF s b k).1 ++ [s.extract (spF s b k).2 k], k + 1) := by simp [spF, h]
theorem spF_no {s : ByteArray} {b : UInt8} {k : Nat} (h : occB s b k = false) : spF s b (k + 1) = spF s b k := by simp [spF, h]
theorem spF_run {s : ByteArray} {b : UInt8} (a : Nat) : ∀ d, (∀ j, a ≤ j → j < a + d → occB s b j = false) → spF s b (a + d) = spF s b a := by
  intro d
  induction d with
  | zero => intro _; rfl
  | succ d ih =>
    intro h
    rw [← Nat.add_assoc, spF_no (h (a + d) (by omega) (by omega))]
    exact ih (fun j h1 h2 => h j h1 (by omega))
theorem spF_le (s : ByteArray) (b : UInt8) : ∀ k, (spF s b k).2 ≤ k ∧ (spF s b k).1.length ≤ k := by
  intro k
  induction k with
  | zero => simp [spF]
  | succ k ih =>
    cases h : occB s b k
    · rw [spF_no h]; omega
    · rw [spF_yes h]; simp; omega

def one (b : UInt8) : ByteArray := ⟨#[b]⟩
theorem occAt_one (l : List UInt8) (b : UInt8) (k : Nat) : Lib.occAt l (one b).data.toList k = (l[k]? == some b) := by
  unfold Lib.occAt one
  rw [Bool.eq_iff_iff, List.isPrefixOf_iff_prefix, beq_iff_eq]
  constructor
  · rintro ⟨t, ht⟩
    have h0 : (l.drop k)[0]? = some b := by rw [← ht]; rfl
    rw [List.getElem?_drop] at h0
    exact h0
  · intro h0
    refine ⟨l.drop (k + 1), ?_⟩
    obtain ⟨a, ha⟩ := List.getElem?_eq_some_iff.1 h0
    rw [List.drop_eq_getElem_cons a, ha]
    rfl

theorem occAt_suffix (s m : ByteArray) (o j : Nat) (ho : o ≤ s.size) : Lib.occAt (s.extract o s.size).data.toList m.data.toList j = Lib.occAt s.data.toList m.data.toList (o + j) := by
  unfold Lib.occAt
  rw [Lib.extract_data, List.drop_take, List.drop_drop]
  congr 1
  rw [List.take_of_length_le (by simp; omega)]

theorem extract_extract (s : ByteArray) (o i j : Nat) (hj : o + j ≤ s.size) : (s.extract o s.size).extract i j = s.extract (o + i) (o + j) := by
  apply ByteArray.ext
  apply Array.ext'
  rw [Lib.extract_data, Lib.extract_data, Lib.extract_data, List.drop_take, List.drop_drop, List.take_take]
  congr 1
  omega

/-- The parts of a suffix, gathered behind what has been gathered ahead of it. -/
theorem pcs_split (s : ByteArray) (b : UInt8) : ∀ (q : ByteArray) (ps : List ByteArray), Pcs (one b) q ps → ∀ o pre, o ≤ s.size → q = s.extract o s.size → spF s b o = (pre, o) →
    splitAll s b = pre ++ ps := by
  intro q ps hp
  induction hp with
  | last r h =>
    intro o pre ho hq hf
    subst hq
    have : spF s b (o + (s.size - o)) = spF s b o := spF_run o (s.size - o) (fun j h1 h2 => by
      have := index_neg _ _ h (j - o) (by simp; omega)
      rw [occAt_suffix s _ o _ ho, show o + (j - o) = j by omega, occAt_one] at this
      exact this)
    rw [show o + (s.size - o) = s.size by omega] at this
    unfold splitAll
    rw [this, hf]
  | more r i ps h hi _ ih =>
    intro o pre ho hq hf
    subst hq
    obtain ⟨h1, h2, h3⟩ := index_facts _ _ _ h
    have hm : (one b).size = 1 := rfl
    have hroom : i + 1 ≤ s.size - o := by
      rw [hm] at hi
      simpa using hi
    have hocc : occB s b (o + i) = true := by rw [occAt_suffix s _ o i ho, occAt_one] at h2; exact h2
    have hrun : spF s b (o + i) = spF s b o := spF_run o i (fun j g1 g2 => by
      have := h3 (j - o) (by omega)
      rw [occAt_suffix s _ o _ ho, show o + (j - o) = j by omega, occAt_one] at this
      exact this)
    have hstep : spF s b (o + i + 1) = (pre ++ [s.extract o (o + i)], o + i + 1) := by
      rw [spF_yes hocc, hrun, hf]
    have hsz : (s.extract o s.size).size = s.size - o := by simp
    rw [ih (o + i + 1) (pre ++ [s.extract o (o + i)]) (by omega) (by
      rw [hm, hsz, extract_extract s o (i + 1) (s.size - o) (by omega)]
      congr 1
      omega) hstep]
    rw [extract_extract s o 0 i (by omega)]
    simp
theorem split_parts (s : ByteArray) (b : UInt8) (full : List ByteArray) (hp : Pcs (one b) s full) : full = splitAll s b := by
  rw [pcs_split s b s full hp 0 [] (Nat.zero_le _) (by apply ByteArray.ext; apply Array.ext'; rw [Lib.extract_data, List.drop_zero, List.take_of_length_le (by simp)]) rfl]
  rfl
end Go.Proofs.YtmaoieceonlkoaaDoor
