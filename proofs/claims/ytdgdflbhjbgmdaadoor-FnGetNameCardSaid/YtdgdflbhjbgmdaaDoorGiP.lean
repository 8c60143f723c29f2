/-
  Names, read by the program: plain lists of bytes.
-/
import Derived.Test.YtdgdflbhjbgmdaaDoorGnP
import Derived.Lib.RuneBytes
namespace Go.Proofs.YtdgdflbhjbgmdaaDoor
set_option linter.unusedVariables false
open Go.RowKit

/-- A half at place i. -/
def halfAt (l : List UInt8) (i : Nat) : Nat := byteAt l i * 256 + byteAt l (i + 1)
theorem halfAt_lt (l : List UInt8) (i : Nat) : halfAt l i < 65536 := by
  have h1 := byteAt_lt l i
  have h2 := byteAt_lt l (i + 1)
  unfold halfAt
  omega
/-- The text of the halves from place i on; none where one is half a pair. -/
def signsGo (l : List UInt8) : Nat → Nat → Option (List UInt8)
  | 0, _ => some []
  | n + 1, i => if i < l.length then
      (if 55296 ≤ halfAt l i ∧ halfAt l i < 57344 then
        (if 56320 ≤ halfAt l i ∨ l.length < i + 4 ∨ halfAt l (i + 2) < 56320 ∨ 57344 ≤ halfAt l (i + 2) then none
          else (signsGo l n (i + 4)).map (putL (65536 + (halfAt l i - 55296) * 1024 + halfAt l (i + 2) - 56320) ++ ·))
        else (signsGo l n (i + 2)).map (putL (halfAt l i) ++ ·)) else some []
def signsI (l : List UInt8) : Option (List UInt8) := signsGo l l.length 0
theorem signsGo_end (l : List UInt8) (n i : Nat) (h : ¬ i < l.length) : signsGo l n i = some [] := by
  cases n with
  | zero => rfl
  | succ n => rw [signsGo, if_neg h]
theorem half_app (p m : List UInt8) (j : Nat) : halfAt (p ++ m) (p.length + j) = halfAt m j := by
  unfold halfAt
  rw [Nat.add_assoc, byteAt_app, byteAt_app]
theorem half_unit (n : Nat) (rest : List UInt8) (h : n < 65536) : halfAt (unit2 n ++ rest) 0 = n := unit2_at n rest h
theorem signs_halves : ∀ (ps : List Nat) (pre : List UInt8) (n : Nat), AllScalar ps → (halvesOf ps).length ≤ n → signsGo (pre ++ halvesOf ps) n pre.length = some (bytesOf ps) := by
  intro ps
  induction ps with
  | nil =>
    intro pre n _ _
    rw [signsGo_end]
    · rfl
    · simp [halvesOf]
  | cons c ps ih =>
    intro pre n hs hn
    have hc := hs c (List.mem_cons_self ..)
    have hps : AllScalar ps := fun x hx => hs x (List.mem_cons_of_mem _ hx)
    have e : halvesOf (c :: ps) = halvesL c ++ halvesOf ps := rfl
    rw [e] at hn ⊢
    rw [List.length_append] at hn
    have hl := halvesL_len c
    obtain ⟨n, rfl⟩ : ∃ m, n = m + 1 := ⟨n - 1, by omega⟩
    have ih2 := ih (pre ++ halvesL c) n hps (by omega)
    rw [List.append_assoc, List.length_append] at ih2
    have a0 := half_app pre (halvesL c ++ halvesOf ps) 0
    have a2 := half_app pre (halvesL c ++ halvesOf ps) 2
    rw [Nat.add_zero] at a0
    rw [signsGo, if_pos (by rw [List.length_append, List.length_append]; omega), a0, a2, bytesOf_cons]
    unfold Scalar at hc
    by_cases h1 : c < 65536
    · have hv : halvesL c = unit2 c := by unfold halvesL; rw [if_pos h1]
      have hu := half_unit c (halvesOf ps) h1
      rw [hv] at ih2 ⊢
      rw [hu, if_neg (by omega)]
      have : (unit2 c).length = 2 := rfl
      rw [this] at ih2
      rw [ih2]
      rfl
    · have hv : halvesL c = unit2 (55296 + (c - 65536) / 1024) ++ unit2 (56320 + (c - 65536) % 1024) := by unfold halvesL; rw [if_neg h1]
      have h4 : (halvesL c).length = 4 := by rw [hv]; rfl
      have hu := half_unit (55296 + (c - 65536) / 1024) (unit2 (56320 + (c - 65536) % 1024) ++ halvesOf ps) (by omega)
      have hw := half_unit (56320 + (c - 65536) % 1024) (halvesOf ps) (by omega)
      have b2 : halfAt (halvesL c ++ halvesOf ps) 2 = halfAt (unit2 (56320 + (c - 65536) % 1024) ++ halvesOf ps) 0 := by rw [hv, List.append_assoc]; exact half_app (unit2 (55296 + (c - 65536) / 1024)) _ 0
      have b0 : halfAt (halvesL c ++ halvesOf ps) 0 = halfAt (unit2 (55296 + (c - 65536) / 1024) ++ (unit2 (56320 + (c - 65536) % 1024) ++ halvesOf ps)) 0 := by rw [hv, List.append_assoc]
      rw [b0, b2, hu, hw, if_pos (by omega), if_neg (by rw [List.length_append, List.length_append]; omega)]
      rw [h4] at ih2
      rw [ih2, show 65536 + (55296 + (c - 65536) / 1024 - 55296) * 1024 + (56320 + (c - 65536) % 1024) - 56320 = c by omega]
      rfl
theorem signsI_halves (ps : List Nat) (hs : AllScalar ps) : signsI (halvesOf ps) = some (bytesOf ps) := by
  have := signs_halves ps [] (halvesOf ps).length hs (Nat.le_refl _)
  exact this
theorem halvesOf_even : ∀ ps : List Nat, (halvesOf ps).length % 2 = 0 := by
  intro ps
  induction ps with
  | nil => rfl
  | cons c ps ih =>
    have e : halvesOf (c :: ps) = halvesL c ++ halvesOf ps := rfl
    rw [e, List.length_append]
    have : (halvesL c).length % 2 = 0 := by
      unfold halvesL
      split <;> simp [unit2]
    omega
/-- How the program reads a stretch. -/
noncomputable def pieceI (mid : List UInt8) : Option (List UInt8) := if mid = [] then some [38] else match unB (swapL 44 47 mid) with
  | none => none
  | some o => if o.length % 2 = 0 then signsI o else none
theorem pieceI_put (ps : List Nat) (h : ps ≠ []) (hs : AllScalar ps) : pieceI (swapL 47 44 (b64 (halvesOf ps))) = some (bytesOf ps) := by
  have hne : halvesOf ps ≠ [] := by
    cases ps with
    | nil => exact absurd rfl h
    | cons c ps =>
      intro e
      have := (halvesL_len c).1
      have h2 : halvesL c ++ halvesOf ps = [] := e
      rw [(List.append_eq_nil_iff.1 h2).1] at this
      simp at this
  have hmid : swapL 47 44 (b64 (halvesOf ps)) ≠ [] := by
    intro e
    have := congrArg List.length e
    rw [swapL_len] at this
    exact b64_ne _ hne (List.eq_nil_of_length_eq_zero (by simpa using this))
  unfold pieceI
  rw [if_neg hmid, word_back, unB_b64]
  simp only [if_pos (halvesOf_even ps)]
  exact signsI_halves ps hs
theorem read_backI {x l : List UInt8} (h : nameOf x = some l) : getG pieceI l = some x := read_back pieceI (by unfold pieceI; rw [if_pos rfl]) pieceI_put h

theorem put_run (r : Nat) (h : Scalar r) : Lib.runeCells (r : Int) = (putL r).map bv := by
  unfold Scalar at h
  unfold Lib.runeCells
  have nat : ∀ x : Nat, x < 256 → bv (UInt8.ofNat x) = .int .u8 (x : Int) := fun x hx => bv_nat x hx
  have sx : ∀ n : Nat, bv (six n) = .int .u8 ((128 + n % 64 : Nat) : Int) := fun n => nat _ (by omega)
  by_cases h1 : r < 128
  · rw [put_one r h1, Lib.encodeRuneZ_one (by omega) (by omega), List.map_cons, List.map_nil, List.map_cons, List.map_nil, nat r (by omega)]
  · by_cases h2 : r < 2048
    · rw [put_two r (by omega) h2, Lib.encodeRuneZ_two (by omega) (by omega)]
      simp only [List.map_cons, List.map_nil, nat (192 + r / 64) (by omega), sx]
      congr 1
    · by_cases h3 : r < 65536
      · rw [put_three r (by omega) h3 (by omega), Lib.encodeRuneZ_three (by omega)]
        simp only [List.map_cons, List.map_nil, nat (224 + r / 4096) (by omega), sx]
        congr 1
      · rw [put_four r (by omega) (by omega), Lib.encodeRuneZ_four (by omega) (by omega)]
        simp only [List.map_cons, List.map_nil, nat (240 + r / 262144) (by omega), sx]
        congr 1
end Go.Proofs.YtdgdflbhjbgmdaaDoor
