/-
  Strings copied behind each other into a row of the call's own.
-/
import Derived.Test.YtgebkpnieailbaaDoorRows
import Derived.WalkKit
import Derived.WalkSpells
import Derived.Lib.Hide
import Derived.Lib.SlBuf
import Derived.Lib.LazyBuf
import Derived.Lib.BufferWrite
import Derived.Laws.IdiomStrings
namespace Go.Proofs.YtgebkpnieailbaaDoor
set_option linter.unusedVariables false
open Go.RowKit
variable {P : Program}

/-- 'copy(out[at:], s)', at = how much is filled. -/
theorem copy_str (w0 wr : World) (h N : Nat) (acc : List UInt8) (s : ByteArray) (dT sT ty elem : TypeId) (hu : P.underlying dT = some (.slice elem)) (hs : (P.info? elem).map (·.size) = some 1)
    (hb : Lib.Buf w0 wr h N acc) (hfit : acc.length + s.size ≤ N) :
    ∃ wr', (Builtin.copy_ #[dT, sT] ty #[Lib.tailV h N acc.length, .string s]).run P wr = .ok (.int .i64 (s.size : Int)) wr' ∧ Lib.Buf w0 wr' h N (acc ++ s.data.toList) := by
  have hl : s.data.toList.length = s.size := by simp
  by_cases h0 : s.size = 0
  · refine ⟨wr, ?_, ?_⟩
    · unfold Lib.tailV
      have := Lib.run_copy_empty_string (P := P) wr dT sT ty elem (some (if N = acc.length then ⟨h, 0, none⟩ else ⟨h, acc.length, none⟩)) (N - acc.length) (N - acc.length) s hu (by rw [hs]; rfl) h0
      rw [this, h0]
      rfl
    · have : s.data.toList = [] := List.eq_nil_of_length_eq_zero (by rw [hl]; exact h0)
      rw [this, List.append_nil]
      exact hb
  · have hne : ¬ N = acc.length := by omega
    have hz : ∀ w, (Go.sizeOf elem).run P w = .ok 1 w := fun w => by
      cases hq : P.info? elem with
      | none => simp [hq] at hs
      | some i =>
        have hi : i.size = 1 := by simpa [hq] using hs
        simp [sizeOf, typeInfo, hq, hi]
    have hr := run_copy_string (P := P) wr dT sT ty elem h acc.length (N - acc.length) (N - acc.length) s hu hz (by omega) (fun j hj => hb.there _ (by omega)) (fun j hj => hb.free _ (by omega))
    have hml : (s.data.toList.map fun x : UInt8 => Value.int .u8 (x.toNat : Int)).length = s.size := by rw [List.length_map, hl]
    have hin := World.cell?_setCells_in h (s.data.toList.map fun x => Value.int .u8 (x.toNat : Int)) acc.length wr (fun j hj => hb.there _ (by omega))
    have hout := World.cell?_setCells_out h (s.data.toList.map fun x => Value.int .u8 (x.toNat : Int)) acc.length wr
    refine ⟨_, by unfold Lib.tailV; rw [if_neg hne]; exact hr, ?_, ?_, ?_, ?_, by rw [List.length_append, hl]; exact hfit⟩
    · exact Lib.below_setCells h (Nat.le_refl _) _ _ hb.below
    · intro j hj
      by_cases h1 : acc.length ≤ j ∧ j < acc.length + s.size
      · obtain ⟨d, rfl⟩ : ∃ d, j = acc.length + d := ⟨j - acc.length, by omega⟩
        rw [hin d (by omega)]
        rfl
      · rw [hout ⟨h, j, none⟩ (fun _ _ => by rw [hml]; show j < _ ∨ _ ≤ j; omega)]
        exact hb.there j hj
    · intro j hj
      rw [World.frozen?_setCells]
      exact hb.free j hj
    · intro j x hx
      by_cases h1 : j < acc.length
      · rw [List.getElem?_append_left h1] at hx
        rw [hout ⟨h, j, none⟩ (fun _ _ => Or.inl h1)]
        exact hb.holds j x hx
      · rw [List.getElem?_append_right (by omega)] at hx
        obtain ⟨d, rfl⟩ : ∃ d, j = acc.length + d := ⟨j - acc.length, by omega⟩
        rw [Nat.add_sub_cancel_left] at hx
        have hd : d < s.data.toList.length := (List.getElem?_eq_some_iff.1 hx).1
        rw [hin d (by omega)]
        simp [List.getElem_map, (List.getElem?_eq_some_iff.1 hx).2]

/-- 'make([]byte, n)': nothing is filled yet. -/
theorem buf_made (w : World) (e : TypeId) (cs : Array Value) (N : Nat) (hN : N ≤ cs.size) : Lib.Buf w (w.alloc (.cells cs e)) w.heap.size N [] where
  below := (Below.refl _ w).alloc (Nat.le_refl _) _
  there := fun j hj => by
    rw [World.cell?_alloc_mark, Array.getElem?_eq_getElem (by omega)]
    rfl
  free := fun j _ => by
    rw [World.frozen?_alloc_mark w _ e 0 0 j]
    simp
  holds := fun j x hx => by simp at hx
  fits := Nat.zero_le _

/-- 'string(out[:at])'. -/
theorem buf_back {w0 w : World} {h N : Nat} {acc : List UInt8} (hb : Lib.Buf w0 w h N acc) (src dst e : TypeId) (cap n : Nat) (hn : n = acc.length) (hs : P.underlying src = some (.slice e)) (he : P.underlying e = some (.int .u8)) (hd : P.underlying dst = some .string) :
    (convert src dst (.slice (some ⟨h, 0, none⟩) n cap)).run P w = .ok (.string ⟨acc.toArray⟩) w := by
  subst hn
  refine run_convert_bytes_back w src dst e ⟨h, 0, none⟩ cap acc hs he hd fun j hj => ?_
  have hadd : (⟨h, 0, none⟩ : Addr).add j = ⟨h, j, none⟩ := by unfold Addr.add; split <;> simp_all
  rw [hadd, hb.holds j acc[j] (List.getElem?_eq_getElem hj)]
end Go.Proofs.YtgebkpnieailbaaDoor
