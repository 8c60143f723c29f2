/-
  Delimiters, as impl looks for them: at the beginnings of lines. Plain.
-/
import Derived.Test.YtjleadlecdcdeaaDlG
import Derived.Test.YtjleadlecdcdeaaLinesA
namespace Go.Proofs.Ytjleadlecdcdeaa
set_option linter.unusedVariables false
open Go.RowKit

/-- The delimiters at the beginnings of lines, the first of which begins at a. -/
def walkD (raw mark : List UInt8) (to : Nat) : List ByteArray → Nat → List Dl
  | [], _ => []
  | x :: r, a => match delimAt raw a to mark with
    | none => walkD raw mark to r (a + x.size + 2)
    | some d => if d.last = 1 then [d] else d :: walkD raw mark to r (a + x.size + 2)
theorem sub2_get (l : List UInt8) (a b j : Nat) (h : a + j < b) : (sub2 l a b)[j]? = l[a + j]? := by
  unfold sub2
  rw [List.getElem?_take, if_pos (by omega), List.getElem?_drop]
theorem sub2_pair (l : List UInt8) (a : Nat) (x y : UInt8) (h : a + 2 ≤ l.length) : sub2 l a (a + 2) = [x, y] ↔ l[a]? = some x ∧ l[a + 1]? = some y := by
  unfold sub2
  have e1 := List.drop_eq_getElem_cons (l := l) (i := a) (by omega)
  have e2 := List.drop_eq_getElem_cons (l := l) (i := a + 1) (by omega)
  rw [e1, e2, show a + 2 - a = 2 by omega, List.getElem?_eq_getElem (by omega), List.getElem?_eq_getElem (by omega), List.take_succ_cons, List.take_succ_cons, List.take_zero]
  simp only [List.cons.injEq, and_true, Option.some.injEq]
theorem begins (raw : List UInt8) (st k : Nat) (hk : k ≤ raw.length) : mayBegin raw st k = true ↔ k = st ∨ (st + 2 ≤ k ∧ raw[k - 2]? = some 13 ∧ raw[k - 1]? = some 10) := by
  unfold mayBegin
  rw [Bool.or_eq_true, decide_eq_true_iff, Bool.and_eq_true, decide_eq_true_iff, beq_iff_eq]
  refine or_congr Iff.rfl (and_congr_right fun h => ?_)
  have := sub2_pair raw (k - 2) 13 10 (by omega)
  rw [show k - 2 + 2 = k by omega, show k - 2 + 1 = k - 1 by omega] at this
  exact this
theorem delimsF_skip (raw mark : List UInt8) (st to : Nat) : ∀ (n a b : Nat), b = a + n → b ≤ to → (∀ k, a ≤ k → k < b → mayBegin raw st k = false) → delimsF raw st to mark (to - a) a = delimsF raw st to mark (to - b) b
  | 0, a, b, hb, _, _ => by rw [hb]; rfl
  | n + 1, a, b, hb, ht, h => by
    rw [delimsF_cons raw mark st to a (by omega), if_neg (by rw [h a (Nat.le_refl _) (by omega)]; simp)]
    exact delimsF_skip raw mark st to n (a + 1) b (by omega) ht (fun k h1 h2 => h k (by omega) h2)
theorem delimAt_end (raw mark : List UInt8) (to : Nat) : delimAt raw to to mark = none := by
  unfold delimAt
  rw [if_pos (.inl (by omega))]
theorem walkD_eq {raw mark : List UInt8} {st to : Nat} (hto : to ≤ raw.length) : ∀ {r : ByteArray} {ps : List ByteArray}, Pcs crlf r ps → ∀ a, st ≤ a → a ≤ to → r.data.toList = sub2 raw a to → mayBegin raw st a = true → walkD raw mark to ps a = delimsF raw st to mark (to - a) a := by
  have key : ∀ (r : ByteArray) (a i : Nat), st ≤ a → a ≤ to → r.data.toList = sub2 raw a to → mayBegin raw st a = true → (∀ j, j < i → occC r j = false) → ∀ k, a + 1 ≤ k → k < a + i + 2 → k ≤ to → mayBegin raw st k = false := by
    intro r a i h1 h2 hr hm hocc k k1 k2 k3
    rw [Bool.eq_false_iff]
    intro hk
    rw [begins _ _ _ (by omega)] at hk hm
    rcases hk with rfl | ⟨q1, q2, q3⟩
    · omega
    · by_cases hc : a + 2 ≤ k
      · have := hocc (k - 2 - a) (by omega)
        rw [Bool.eq_false_iff, ne_eq, occC_iff, hr] at this
        refine this ⟨?_, ?_⟩
        · rw [sub2_get _ _ _ _ (by omega), show a + (k - 2 - a) = k - 2 by omega]
          exact q2
        · rw [sub2_get _ _ _ _ (by omega), show a + (k - 2 - a + 1) = k - 1 by omega]
          exact q3
      · obtain rfl : k = a + 1 := by omega
        rcases hm with rfl | ⟨_, _, m3⟩
        · omega
        · rw [show a + 1 - 2 = a - 1 by omega, m3] at q2
          cases q2
  intro r ps h
  induction h with
  | last r hneg =>
    intro a h1 h2 hr hm
    have hocc : ∀ j, occC r j = false := fun j => by
      by_cases hj : j ≤ r.size
      · exact index_neg r crlf hneg j hj
      · exact occC_late (by omega)
    rcases Nat.lt_or_ge a to with hlt | hge
    · have hs : r.data.toList.length = r.size := by simp
      have hsk : delimsF raw st to mark (to - (a + 1)) (a + 1) = [] := by
        rw [delimsF_skip raw mark st to (to - (a + 1)) (a + 1) to (by omega) (Nat.le_refl _) (fun k k1 k2 => key r a to h1 h2 hr hm (fun j _ => hocc j) k k1 (by omega) (by omega)), Nat.sub_self]
        rfl
      rw [delimsF_cons raw mark st to a hlt, if_pos hm, hsk, walkD]
      rfl
    · obtain rfl : a = to := by omega
      rw [Nat.sub_self, walkD, delimAt_end]
      rfl
  | more r i ps hi hroom t ih =>
    intro a h1 h2 hr hm
    obtain ⟨f1, f2, f3⟩ := index_facts r crlf i hi
    have hs : r.data.toList.length = r.size := by simp
    have hrs : r.size = to - a := by
      rw [← hs, hr]
      unfold sub2
      rw [List.length_take, List.length_drop]
      omega
    have hc2 : crlf.size = 2 := rfl
    rw [hc2] at hroom
    have hx : (r.extract 0 i).size = i := by rw [ByteArray.size_extract]; omega
    have o := (occC_iff r i).1 f2
    rw [hr, sub2_get _ _ _ _ (by omega), sub2_get _ _ _ _ (by omega)] at o
    have hm2 : mayBegin raw st (a + i + 2) = true := by
      rw [begins _ _ _ (by omega)]
      refine .inr ⟨by omega, ?_, ?_⟩
      · rw [show a + i + 2 - 2 = a + i by omega]; exact o.1
      · rw [show a + i + 2 - 1 = a + (i + 1) by omega]; exact o.2
    have hr2 : (r.extract (i + crlf.size) r.size).data.toList = sub2 raw (a + i + 2) to := by
      rw [Lib.extract_to_end, hr, hc2]
      unfold sub2
      rw [List.drop_take, List.drop_drop, show a + (i + 2) = a + i + 2 by omega, show to - a - (i + 2) = to - (a + i + 2) by omega]
    have e := ih (a + i + 2) (by omega) (by omega) hr2 hm2
    have hsk := delimsF_skip raw mark st to (i + 1) (a + 1) (a + i + 2) (by omega) (by omega) (fun k k1 k2 => key r a i h1 h2 hr hm (fun j hj => f3 j hj) k k1 k2 (by omega))
    rw [delimsF_cons raw mark st to a (by omega), if_pos hm, hsk, walkD, hx, e]
    rfl
end Go.Proofs.Ytjleadlecdcdeaa
