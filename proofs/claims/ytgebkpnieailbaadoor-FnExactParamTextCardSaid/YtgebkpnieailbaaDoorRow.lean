/-
  A row of bytes of the call's own: appended to, and turned to a string.
-/
import Derived.Test.YtgebkpnieailbaaDoorBuf
import Derived.Lib.AppendStr
namespace Go.Proofs.YtgebkpnieailbaaDoor
set_option linter.unusedVariables false
open Go.RowKit

theorem infoByteJ : (Tryd.prog.info? 5).map (fun i => (i.zero, i.size, i.bytes)) = some (some (.int .u8 0), 1, 1) := by kernel_rfl
theorem strCells_bv (s : ByteArray) : Lib.strCells s = s.data.toList.map bv := rfl
theorem row_app {w : World} {B : Nat} {T : TypeId} {v : Value} {L : List UInt8} {s : ByteArray} (h : w.ownsRow B T 1 v (L.length + s.size) (L.map bv ++ Lib.strCells s)) :
    w.ownsRow B T 1 v (L ++ s.data.toList).length ((L ++ s.data.toList).map bv) := by
  rw [strCells_bv] at h
  simpa using h
theorem rowJ_form {w : World} {B : Nat} {e : TypeId} {v : Value} {n : Nat} {xs : List Value} (h : w.ownsRow B e 1 v n xs) : (v = .slice none 0 0 ∧ n = 0) ∨ ∃ g cap, v = .slice (some ⟨g, 0, none⟩) n cap ∧ n ≤ cap := by
  rcases h.2 with ⟨rfl, rfl⟩ | ⟨g, cap, cur, rfl, _, _, hc, _⟩
  · exact .inl ⟨rfl, rfl⟩
  · exact .inr ⟨g, cap, rfl, hc⟩
theorem rowJ_back {P : Program} {w : World} {B : Nat} {v : Value} {T : TypeId} {l : List UInt8} (h : w.ownsRow B T 1 v l.length (l.map bv)) (src dst e : TypeId) (hs : P.underlying src = some (.slice e)) (he : P.underlying e = some (.int .u8)) (hd : P.underlying dst = some .string) :
    (convert src dst v).run P w = .ok (.string ⟨l.toArray⟩) w := by
  rcases rowJ_form h with ⟨rfl, h0⟩ | ⟨g, cap, rfl, hcap⟩
  · obtain rfl : l = [] := List.eq_nil_of_length_eq_zero h0
    simp [convert, run_underlying hs, run_underlying hd, run_underlying he, Conv.bytesToString, Sem.run_pure]
    rfl
  · exact run_convert_bytes_back (P := P) w src dst e ⟨g, 0, none⟩ cap l hs he hd (fun j hj => by
      have hadd : (⟨g, 0, none⟩ : Addr).add j = ⟨g, j, none⟩ := by unfold Addr.add; split <;> simp_all
      rw [hadd, h.cellAt j (by omega), List.getElem?_map, List.getElem?_eq_getElem (by omega)]
      simp [bv])
end Go.Proofs.YtgebkpnieailbaaDoor
