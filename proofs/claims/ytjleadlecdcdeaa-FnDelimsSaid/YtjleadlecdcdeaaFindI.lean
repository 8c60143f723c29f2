/-
  The walk of impl.Find: the first index of a sublist.
-/
import Derived.Test.YtjleadlecdcdeaaFindP
import Derived.Shelf.Strings.Shaped
import Derived.Test.YtjleadlecdcdeaaShelf
namespace Go.Proofs.Ytjleadlecdcdeaa
set_option linter.unusedVariables false
open Go.RowKit

/-- The library's variable holds some number. -/
def MaxLenAt (w : World) : Prop := ∃ m : Int, w.cell? ⟨0, 0, none⟩ = some (.int .i64 m)
theorem maxLenAt_of_shaped {w : World} (h : w.ShapedOpen Try.prog) : MaxLenAt w :=
  Go.Proofs.cell_of_shapedOpen_int (zero := #[.int .i64 0]) (t := 3) h (of_decide_eq_true (by kernel_rfl)) (by kernel_rfl) rfl (by kernel_rfl) (by kernel_rfl) Try.underlying3
theorem MaxLenAt.lt {w : World} (h : MaxLenAt w) : 0 < w.heap.size := by
  obtain ⟨m, hm⟩ := h
  exact block_lt_of_cell hm
theorem MaxLenAt.below {B : Nat} {w w' : World} (h : MaxLenAt w) (hb : Below B w w') (hB : 0 < B) : MaxLenAt w' := by
  obtain ⟨m, hm⟩ := h
  exact ⟨m, (hb.cell (p := ⟨0, 0, none⟩) hB).trans hm⟩
theorem MaxLenAt.after {w w' : World} (h : MaxLenAt w) (hb : Below w.heap.size w w') : MaxLenAt w' := h.below hb h.lt

set_option maxHeartbeats 400000 in
theorem implFind_any (s t : ByteArray) (w : World) (hm : MaxLenAt w) (hs : s.size < 4294967281) :
    Calls Try.prog 77 #[.string s, .string t] w fun e w' => e = .returned (.int .i64 (Lib.index s.data.toList t.data.toList)) ∧ w' = w := by
  obtain ⟨m, hm⟩ := hm
  have HM := Lib.hid hm
  clear hm
  go_enter Try.func77, Try.ntmps77
  go_wp2_with (go_at_call 96; refine (Try.strings_Index _ _ m _ hs HM.out).mono ?_; rintro e w' ⟨rfl, rfl⟩)
  go_ret
  exact ⟨rfl, rfl⟩

end Go.Proofs.Ytjleadlecdcdeaa
