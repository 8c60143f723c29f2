/-
  Bytes come back from their signs: plain lists of bytes.
-/
import Derived.Test.YtdgdflbhjbgmdaaDoorBsG
namespace Go.Proofs.YtdgdflbhjbgmdaaDoor
set_option linter.unusedVariables false
open Go.RowKit

theorem preB_full (y : List UInt8) : ∀ m, 3 * m ≤ y.length → (preB y m).length = 4 * m := by
  intro m
  induction m with
  | zero => intro _; rfl
  | succ m ih =>
    intro h
    rw [preB, List.length_append, grp_len, ih (by omega)]
    omega
theorem preB_at (y : List UInt8) (m q : Nat) (hm : 3 * m < y.length) (hq : q ≤ min 3 (y.length - 3 * m)) : ∀ d, (preB y (m + 1 + d))[4 * m + q]? = some (sg (sixAt (nAt y (3 * m) 3) q)) := by
  intro d
  induction d with
  | zero =>
    rw [Nat.add_zero, preB, List.getElem?_append_right (by rw [preB_full y m (by omega)]; omega), preB_full y m (by omega), show 4 * m + q - 4 * m = q by omega]
    simp only [grp, List.getElem?_map, List.getElem?_range (show q < min 3 (y.length - 3 * m) + 1 by omega)]
    rfl
  | succ d ih =>
    rw [← Nat.add_assoc, preB, List.getElem?_append_left (List.getElem?_eq_some_iff.1 ih).1]
    exact ih
theorem b64_at (y : List UInt8) (m q : Nat) (hm : 3 * m < y.length) (hq : q ≤ min 3 (y.length - 3 * m)) : (b64 y)[4 * m + q]? = some (sg (sixAt (nAt y (3 * m) 3) q)) := by
  unfold b64
  have h := preB_at y m q hm hq ((y.length + 2) / 3 - (m + 1))
  rwa [show m + 1 + ((y.length + 2) / 3 - (m + 1)) = (y.length + 2) / 3 by omega] at h
theorem b64_len (y : List UInt8) : (b64 y).length = (8 * y.length + 5) / 6 := by
  unfold b64
  by_cases h0 : y.length = 0
  · rw [h0]; rfl
  · have e : (y.length + 2) / 3 = (y.length - 1) / 3 + 1 := by omega
    rw [e, preB, List.length_append, grp_len, preB_full y _ (by omega)]
    omega
theorem preB_signs (y : List UInt8) : ∀ m, ∀ b ∈ preB y m, IsSign b := by
  intro m
  induction m with
  | zero => intro b hb; cases hb
  | succ m ih =>
    intro b hb
    rw [preB] at hb
    rcases List.mem_append.1 hb with h | h
    · exact ih b h
    · unfold grp at h
      obtain ⟨k, _, rfl⟩ := List.mem_map.1 h
      exact ⟨_, sixAt_lt _ k, rfl⟩
theorem b64_signs (y : List UInt8) (j : Nat) (b : UInt8) (h : (b64 y)[j]? = some b) : IsSign b := preB_signs y _ b (List.mem_of_getElem? h)

theorem six_bytes (y : List UInt8) (i : Nat) : sixAt (nAt y i 3) 0 = byteAt y i / 4 ∧ sixAt (nAt y i 3) 1 = byteAt y i % 4 * 16 + byteAt y (i + 1) / 16 ∧ sixAt (nAt y i 3) 2 = byteAt y (i + 1) % 16 * 4 + byteAt y (i + 2) / 64 ∧ sixAt (nAt y i 3) 3 = byteAt y (i + 2) % 64 := by
  have e : nAt y i 3 = (byteAt y i * 256 + byteAt y (i + 1)) * 256 + byteAt y (i + 2) := by simp [nAt]
  rw [e]
  have ha := byteAt_lt y i
  have hb := byteAt_lt y (i + 1)
  have hc := byteAt_lt y (i + 2)
  generalize byteAt y i = a at *
  generalize byteAt y (i + 1) = b at *
  generalize byteAt y (i + 2) = c at *
  unfold sixAt
  refine ⟨?_, ?_, ?_, ?_⟩ <;> simp <;> omega

theorem decS_step (l : List UInt8) (k x B n : Nat) (o : List UInt8) (h0 : decS l k = (B, n, o)) (h : l[k]? = some (sg x)) (hx : x < 64) :
    decS l (k + 1) = if 2 ≤ B then (B - 2, (n * 64 + x) % 16777216, o ++ [UInt8.ofNat ((n * 64 + x) % 16777216 / 2 ^ (B - 2) % 256)]) else (B + 6, (n * 64 + x) % 16777216, o) := by
  have e : us (l.getD k 0) = x := by rw [List.getD_eq_getElem?_getD, h]; exact us_sg x hx
  simp only [decS, h0, e]
theorem dec_two (l : List UInt8) (k n a b : Nat) (o : List UInt8) (ha : a < 256) (hb : b < 256) (h0 : decS l k = (0, n, o)) (e0 : l[k]? = some (sg (a / 4))) (e1 : l[k + 1]? = some (sg (a % 4 * 16 + b / 16))) :
    ∃ n', decS l (k + 2) = (4, n', o ++ [UInt8.ofNat a]) ∧ n' % 64 = a % 4 * 16 + b / 16 := by
  have s1 := decS_step l k _ _ _ _ h0 e0 (by omega)
  simp only [Nat.reduceLeDiff, if_false] at s1
  have s2 := decS_step l (k + 1) _ _ _ _ s1 e1 (by omega)
  simp only [Nat.reduceLeDiff, if_true, Nat.reduceSub, Nat.reducePow, Nat.zero_add] at s2
  have e : ((n * 64 + a / 4) % 16777216 * 64 + (a % 4 * 16 + b / 16)) % 16777216 / 16 % 256 = a := by omega
  rw [e] at s2
  exact ⟨_, s2, by omega⟩
theorem dec_three (l : List UInt8) (k n a b c : Nat) (o : List UInt8) (hb : b < 256) (hc : c < 256) (h0 : decS l k = (4, n, o)) (hn : n % 64 = a % 4 * 16 + b / 16) (e0 : l[k]? = some (sg (b % 16 * 4 + c / 64))) :
    ∃ n', decS l (k + 1) = (2, n', o ++ [UInt8.ofNat b]) ∧ n' % 64 = b % 16 * 4 + c / 64 := by
  have s1 := decS_step l k _ _ _ _ h0 e0 (by omega)
  simp only [Nat.reduceLeDiff, if_true, Nat.reduceSub, Nat.reducePow] at s1
  have e : (n * 64 + (b % 16 * 4 + c / 64)) % 16777216 / 4 % 256 = b := by omega
  rw [e] at s1
  exact ⟨_, s1, by omega⟩
theorem dec_four (l : List UInt8) (k n b c : Nat) (o : List UInt8) (hc : c < 256) (h0 : decS l k = (2, n, o)) (hn : n % 64 = b % 16 * 4 + c / 64) (e0 : l[k]? = some (sg (c % 64))) :
    ∃ n', decS l (k + 1) = (0, n', o ++ [UInt8.ofNat c]) := by
  have s1 := decS_step l k _ _ _ _ h0 e0 (by omega)
  simp only [Nat.reduceLeDiff, if_true, Nat.reduceSub, Nat.reducePow, Nat.div_one] at s1
  have e : (n * 64 + c % 64) % 16777216 % 256 = c := by omega
  rw [e] at s1
  exact ⟨_, s1⟩
theorem take_byte (y : List UInt8) (i : Nat) (h : i < y.length) : y.take i ++ [UInt8.ofNat (byteAt y i)] = y.take (i + 1) := by
  have e : y[i]? = some (UInt8.ofNat (byteAt y i)) := by
    unfold byteAt
    rw [List.getD_eq_getElem?_getD, List.getElem?_eq_getElem h]
    simp
  rw [List.take_add_one, e]
  rfl

theorem dec_full (y : List UInt8) : ∀ m, 3 * m ≤ y.length → ∃ n, decS (b64 y) (4 * m) = (0, n, y.take (3 * m)) := by
  intro m
  induction m with
  | zero => intro _; exact ⟨0, by simp [decS]⟩
  | succ m ih =>
    intro h
    obtain ⟨n, h0⟩ := ih (by omega)
    obtain ⟨g0, g1, g2, g3⟩ := six_bytes y (3 * m)
    have a0 := b64_at y m 0 (by omega) (by omega)
    have a1 := b64_at y m 1 (by omega) (by omega)
    have a2 := b64_at y m 2 (by omega) (by omega)
    have a3 := b64_at y m 3 (by omega) (by omega)
    rw [g0] at a0
    rw [g1] at a1
    rw [g2] at a2
    rw [g3] at a3
    obtain ⟨n1, h1, k1⟩ := dec_two _ _ _ _ _ _ (byteAt_lt y (3 * m)) (byteAt_lt y (3 * m + 1)) h0 a0 a1
    obtain ⟨n2, h2, k2⟩ := dec_three _ _ _ _ _ _ _ (byteAt_lt y (3 * m + 1)) (byteAt_lt y (3 * m + 2)) h1 k1 a2
    obtain ⟨n3, h3⟩ := dec_four _ _ _ _ _ _ (byteAt_lt y (3 * m + 2)) h2 k2 a3
    refine ⟨n3, ?_⟩
    rw [take_byte y _ (by omega), take_byte y _ (by omega), take_byte y _ (by omega)] at h3
    exact h3
theorem dec_b64 (y : List UInt8) : (decS (b64 y) (b64 y).length).2.2 = y := by
  by_cases h0 : y.length = 0
  · obtain rfl := List.eq_nil_of_length_eq_zero h0
    rfl
  · obtain ⟨m, hm⟩ : ∃ m, m = (y.length - 1) / 3 := ⟨_, rfl⟩
    obtain ⟨n, h0⟩ := dec_full y m (by omega)
    obtain ⟨g0, g1, g2, g3⟩ := six_bytes y (3 * m)
    have a0 := b64_at y m 0 (by omega) (by omega)
    have a1 := b64_at y m 1 (by omega) (by omega)
    rw [g0] at a0
    rw [g1] at a1
    obtain ⟨n1, h1, k1⟩ := dec_two _ _ _ _ _ _ (byteAt_lt y (3 * m)) (byteAt_lt y (3 * m + 1)) h0 a0 a1
    rw [take_byte y _ (by omega)] at h1
    by_cases c1 : y.length = 3 * m + 1
    · rw [b64_len, show (8 * y.length + 5) / 6 = 4 * m + 2 by omega, h1]
      exact List.take_of_length_le (by omega)
    · have a2 := b64_at y m 2 (by omega) (by omega)
      rw [g2] at a2
      obtain ⟨n2, h2, k2⟩ := dec_three _ _ _ _ _ _ _ (byteAt_lt y (3 * m + 1)) (byteAt_lt y (3 * m + 2)) h1 k1 a2
      rw [take_byte y _ (by omega)] at h2
      by_cases c2 : y.length = 3 * m + 2
      · rw [b64_len, show (8 * y.length + 5) / 6 = 4 * m + 2 + 1 by omega, h2]
        exact List.take_of_length_le (by omega)
      · obtain ⟨n3, h3⟩ := dec_full y (m + 1) (by omega)
        rw [b64_len, show (8 * y.length + 5) / 6 = 4 * (m + 1) by omega, h3]
        exact List.take_of_length_le (by omega)
theorem b64_inj {x y : List UInt8} (h : b64 x = b64 y) : x = y := by
  have h1 := dec_b64 x
  rw [h, dec_b64 y] at h1
  exact h1.symm

/-- What GetB64 hands back: the bytes that are written so, where there are such. -/
def ReadsB64 (l : List UInt8) (w : World) (e : Ending) (w' : World) : Prop :=
  ((∃ o : ByteArray, e = .returned (.tuple #[.string o, .bool true]) ∧ b64 o.data.toList = l) ∨
    (e = .returned (.tuple #[.string ⟨#[]⟩, .bool false]) ∧ ∀ o, b64 o ≠ l)) ∧ Below w.heap.size w w'
theorem readsB64 {l : List UInt8} {w w' : World} {e : Ending} (h : GetsB64 l w e w') : ReadsB64 l w e w' := by
  refine ⟨?_, h.2⟩
  rcases h.1 with h1 | ⟨h1, h2⟩
  · exact .inl h1
  · refine .inr ⟨h1, ?_⟩
    rintro o rfl
    rcases h2 with ⟨j, b, h3, h4⟩ | h2
    · exact h4 (b64_signs o j b h3)
    · rw [dec_b64] at h2
      exact h2 rfl
/-- Two readings of one text are the same. -/
theorem reads_same {l : List UInt8} {w1 w1' w2 w2' : World} {e1 e2 : Ending} (h1 : ReadsB64 l w1 e1 w1') (h2 : ReadsB64 l w2 e2 w2') : e1 = e2 := by
  rcases h1.1 with ⟨o1, rfl, k1⟩ | ⟨rfl, k1⟩ <;> rcases h2.1 with ⟨o2, rfl, k2⟩ | ⟨rfl, k2⟩
  · have e : o1 = o2 := ByteArray.ext (Array.ext' (b64_inj (k1.trans k2.symm)))
    rw [e]
  · exact absurd k1 (k2 _)
  · exact absurd k2 (k1 _)
  · rfl
theorem specGet_any (s : ByteArray) (w : World) (hs : s.size ≤ 67108864) :
    Calls Tryd.prog 35 #[.string s] w (ReadsB64 s.data.toList w) :=
  (specGetB64_any s w hs).mono fun _ _ h => readsB64 h
end Go.Proofs.YtdgdflbhjbgmdaaDoor
