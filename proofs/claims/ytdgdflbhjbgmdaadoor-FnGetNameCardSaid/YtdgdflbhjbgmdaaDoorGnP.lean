/-
  Names, read: plain lists of bytes.
-/
import Derived.Test.YtdgdflbhjbgmdaaDoorPnW
namespace Go.Proofs.YtdgdflbhjbgmdaaDoor
set_option linter.unusedVariables false
open Go.RowKit

open Classical in
/-- The bytes that are written so; none where there are none. -/
noncomputable def unB (l : List UInt8) : Option (List UInt8) := if h : ∃ o, b64 o = l then some (Classical.choose h) else none
theorem unB_b64 (o : List UInt8) : unB (b64 o) = some o := by
  have hex : ∃ p, b64 p = b64 o := ⟨o, rfl⟩
  unfold unB
  rw [dif_pos hex]
  rw [b64_inj (Classical.choose_spec hex)]
theorem unB_none (l : List UInt8) (h : ∀ o, b64 o ≠ l) : unB l = none := by
  unfold unB
  rw [dif_neg]
  rintro ⟨o, ho⟩
  exact h o ho
theorem unB_len (l o : List UInt8) (h : unB l = some o) : o.length ≤ l.length ∧ b64 o = l := by
  unfold unB at h
  split at h
  · rename_i hex
    have hs := Classical.choose_spec hex
    rw [Option.some.inj h] at hs
    have := congrArg List.length hs
    rw [b64_len] at this
    exact ⟨by omega, hs⟩
  · cases h

theorem put_len (r : Nat) : (putL r).length ≤ 4 := by
  unfold putL
  split
  · simp
  · split
    · simp
    · split
      · simp
      · split <;> simp
/-- The text of the halves from place i on. -/
def textAt (l : List UInt8) : Nat → Nat → List UInt8
  | 0, _ => []
  | n + 1, i => if i + 1 < l.length then
      (if 55296 ≤ byteAt l i * 256 + byteAt l (i + 1) ∧ byteAt l i * 256 + byteAt l (i + 1) ≤ 56319 ∧ i + 3 < l.length
        then putL (65536 + (byteAt l i * 256 + byteAt l (i + 1) - 55296) * 1024 + (byteAt l (i + 2) * 256 + byteAt l (i + 3)) - 56320) ++ textAt l n (i + 4)
        else putL (byteAt l i * 256 + byteAt l (i + 1)) ++ textAt l n (i + 2)) else []
def textS (l : List UInt8) : List UInt8 := textAt l l.length 0
theorem textAt_end (l : List UInt8) (n i : Nat) (h : ¬ i + 1 < l.length) : textAt l n i = [] := by
  cases n with
  | zero => rfl
  | succ n => rw [textAt, if_neg h]
theorem textAt_len (l : List UInt8) : ∀ (n i : Nat), (textAt l n i).length ≤ 2 * (l.length - i) := by
  intro n
  induction n with
  | zero => intro i; simp [textAt]
  | succ n ih =>
    intro i
    rw [textAt]
    split
    · split
      · have h1 := put_len (65536 + (byteAt l i * 256 + byteAt l (i + 1) - 55296) * 1024 + (byteAt l (i + 2) * 256 + byteAt l (i + 3)) - 56320)
        have h2 := ih (i + 4)
        rw [List.length_append]
        omega
      · have h1 := put_len (byteAt l i * 256 + byteAt l (i + 1))
        have h2 := ih (i + 2)
        rw [List.length_append]
        omega
    · simp
theorem textS_len (l : List UInt8) : (textS l).length ≤ 2 * l.length := textAt_len l l.length 0

theorem byteAt_app (p m : List UInt8) (j : Nat) : byteAt (p ++ m) (p.length + j) = byteAt m j := by
  unfold byteAt
  rw [List.getD_eq_getElem?_getD, List.getD_eq_getElem?_getD, List.getElem?_append_right (by omega), show p.length + j - p.length = j by omega]
theorem nat8 (x : Nat) (h : x < 256) : (UInt8.ofNat x).toNat = x := by rw [UInt8.toNat_ofNat', Nat.mod_eq_of_lt h]
theorem unit2_at (n : Nat) (rest : List UInt8) (h : n < 65536) : byteAt (unit2 n ++ rest) 0 * 256 + byteAt (unit2 n ++ rest) 1 = n := by
  show (UInt8.ofNat (n / 256)).toNat * 256 + (UInt8.ofNat n).toNat = n
  rw [nat8 _ (by omega), UInt8.toNat_ofNat']
  omega
theorem text_halves : ∀ (ps : List Nat) (pre : List UInt8) (n : Nat), AllScalar ps → (halvesOf ps).length ≤ n → textAt (pre ++ halvesOf ps) n pre.length = bytesOf ps := by
  intro ps
  induction ps with
  | nil =>
    intro pre n _ _
    rw [textAt_end]
    · rfl
    · simp [halvesOf]
  | cons c ps ih =>
    intro pre n hs hn
    have hc := hs c (List.mem_cons_self ..)
    have hps : AllScalar ps := fun x hx => hs x (List.mem_cons_of_mem _ hx)
    have e : halvesOf (c :: ps) = halvesL c ++ halvesOf ps := rfl
    rw [e] at hn ⊢
    rw [List.length_append] at hn
    have hl := halvesL_len c
    obtain ⟨n, rfl⟩ : ∃ m, n = m + 1 := ⟨n - 1, by omega⟩
    have ih2 := ih (pre ++ halvesL c) n hps (by omega)
    rw [List.append_assoc, List.length_append] at ih2
    have a0 := byteAt_app pre (halvesL c ++ halvesOf ps) 0
    have a1 := byteAt_app pre (halvesL c ++ halvesOf ps) 1
    have a2 := byteAt_app pre (halvesL c ++ halvesOf ps) 2
    have a3 := byteAt_app pre (halvesL c ++ halvesOf ps) 3
    rw [Nat.add_zero] at a0
    rw [textAt, if_pos (by rw [List.length_append, List.length_append]; omega), a0, a1, a2, a3, bytesOf_cons]
    unfold Scalar at hc
    by_cases h1 : c < 65536
    · have hv : halvesL c = unit2 c := by unfold halvesL; rw [if_pos h1]
      have hu := unit2_at c (halvesOf ps) h1
      rw [hv] at ih2 ⊢
      rw [hu, if_neg (by omega)]
      have : (unit2 c).length = 2 := rfl
      rw [this] at ih2
      rw [ih2]
    · have hv : halvesL c = unit2 (55296 + (c - 65536) / 1024) ++ unit2 (56320 + (c - 65536) % 1024) := by unfold halvesL; rw [if_neg h1]
      have h4 : (halvesL c).length = 4 := by rw [hv]; rfl
      have hu := unit2_at (55296 + (c - 65536) / 1024) (unit2 (56320 + (c - 65536) % 1024) ++ halvesOf ps) (by omega)
      have hw := unit2_at (56320 + (c - 65536) % 1024) (halvesOf ps) (by omega)
      have b2 : byteAt (halvesL c ++ halvesOf ps) 2 = byteAt (unit2 (56320 + (c - 65536) % 1024) ++ halvesOf ps) 0 := by rw [hv, List.append_assoc]; exact byteAt_app (unit2 (55296 + (c - 65536) / 1024)) _ 0
      have b3 : byteAt (halvesL c ++ halvesOf ps) 3 = byteAt (unit2 (56320 + (c - 65536) % 1024) ++ halvesOf ps) 1 := by rw [hv, List.append_assoc]; exact byteAt_app (unit2 (55296 + (c - 65536) / 1024)) _ 1
      have b0 : byteAt (halvesL c ++ halvesOf ps) 0 = byteAt (unit2 (55296 + (c - 65536) / 1024) ++ (unit2 (56320 + (c - 65536) % 1024) ++ halvesOf ps)) 0 := by rw [hv, List.append_assoc]
      have b1 : byteAt (halvesL c ++ halvesOf ps) 1 = byteAt (unit2 (55296 + (c - 65536) / 1024) ++ (unit2 (56320 + (c - 65536) % 1024) ++ halvesOf ps)) 1 := by rw [hv, List.append_assoc]
      rw [b0, b1, b2, b3, hu, hw, if_pos (by rw [List.length_append, List.length_append]; omega)]
      rw [h4] at ih2
      rw [ih2, show 65536 + (55296 + (c - 65536) / 1024 - 55296) * 1024 + (56320 + (c - 65536) % 1024) - 56320 = c by omega]
theorem textS_halves (ps : List Nat) (hs : AllScalar ps) : textS (halvesOf ps) = bytesOf ps := by
  have := text_halves ps [] (halvesOf ps).length hs (Nat.le_refl _)
  exact this

/-- How spec reads a stretch. -/
noncomputable def pieceS (mid : List UInt8) : Option (List UInt8) := if mid = [] then some [38] else some (textS ((unB (swapL 44 47 mid)).getD []))
theorem pieceS_put (ps : List Nat) (h : ps ≠ []) (hs : AllScalar ps) : pieceS (swapL 47 44 (b64 (halvesOf ps))) = some (bytesOf ps) := by
  have hne : halvesOf ps ≠ [] := by
    cases ps with
    | nil => exact absurd rfl h
    | cons c ps =>
      intro e
      have := (halvesL_len c).1
      have h2 : halvesL c ++ halvesOf ps = [] := e
      rw [(List.append_eq_nil_iff.1 h2).1] at this
      simp at this
  have hmid : swapL 47 44 (b64 (halvesOf ps)) ≠ [] := by
    intro e
    have := congrArg List.length e
    rw [swapL_len] at this
    exact b64_ne _ hne (List.eq_nil_of_length_eq_zero (by simpa using this))
  unfold pieceS
  rw [if_neg hmid, word_back, unB_b64]
  show some (textS (halvesOf ps)) = _
  rw [textS_halves ps hs]
theorem nameOf_some {x l : List UInt8} (h : nameOf x = some l) : ∃ cs, AllScalar cs ∧ x = bytesOf cs ∧ l = putNm cs [] := by
  unfold nameOf at h
  split at h
  · rename_i hex
    obtain ⟨h1, h2⟩ := Classical.choose_spec hex
    exact ⟨_, h1, h2, (Option.some.inj h).symm⟩
  · cases h
/-- Whatever reads stretches as they are written reads a name back. -/
theorem read_back (p : List UInt8 → Option (List UInt8)) (h0 : p [] = some [38]) (hp : ∀ ps, ps ≠ [] → AllScalar ps → p (swapL 47 44 (b64 (halvesOf ps))) = some (bytesOf ps)) {x l : List UInt8} (h : nameOf x = some l) : getG p l = some x := by
  obtain ⟨cs, h1, rfl, rfl⟩ := nameOf_some h
  have := getG_put p h0 hp cs [] h1 (fun c hc => nomatch hc)
  exact this
theorem read_backS {x l : List UInt8} (h : nameOf x = some l) : getG pieceS l = some x := read_back pieceS (by unfold pieceS; rw [if_pos rfl]) pieceS_put h

/-- What GetName hands back. -/
def GetsName (l : List UInt8) (w : World) (e : Ending) (w' : World) : Prop :=
  ((∃ x : ByteArray, nameOf x.data.toList = some l ∧ x.size ≤ 4194304 ∧ e = .returned (.tuple #[.string x, .bool true])) ∨
    ((∀ x, nameOf x ≠ some l) ∧ e = .returned (.tuple #[.string ⟨#[]⟩, .bool false]))) ∧ Below w.heap.size w w'
theorem getsName_same {l : List UInt8} {w1 w1' w2 w2' : World} {e1 e2 : Ending} (h1 : GetsName l w1 e1 w1') (h2 : GetsName l w2 e2 w2') : e1 = e2 := by
  rcases h1.1 with ⟨x1, k1, _, rfl⟩ | ⟨k1, rfl⟩ <;> rcases h2.1 with ⟨x2, k2, _, rfl⟩ | ⟨k2, rfl⟩
  · have e := read_backS k1
    rw [read_backS k2] at e
    have e2 : x1 = x2 := ByteArray.ext (Array.ext' (Option.some.inj e).symm)
    rw [e2]
  · exact absurd k1 (k2 _)
  · exact absurd k2 (k1 _)
  · rfl
end Go.Proofs.YtdgdflbhjbgmdaaDoor
