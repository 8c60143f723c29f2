/-
  The first field of a name: plain; the walk of spec's BodyOf.
-/
import Derived.Test.YtfgfbdfijpecfaaFlA
import Derived.Test.YtfgfbdfijpecfaaSameA
namespace Go.Proofs.Ytfgfbdfijpecfaa
set_option linter.unusedVariables false
open Go.RowKit

def bodyOf (name : List UInt8) : List Fl → Option (List UInt8)
  | [] => none
  | f :: r => if sameB f.name name then some f.body else bodyOf name r
/-- What BodyOf tells. -/
def bodyV (b : Option (List UInt8)) : Value := match b with
  | none => .tuple #[.string ⟨#[]⟩, .bool false]
  | some x => .tuple #[.string (mkB x), .bool true]
theorem bodyOf_drop (name : List UInt8) (l : List Fl) (k : Nat) (h : k < l.length) : bodyOf name (l.drop k) = if sameB l[k].name name then some l[k].body else bodyOf name (l.drop (k + 1)) := by
  rw [List.drop_eq_getElem_cons h, bodyOf]

set_option maxRecDepth 100000 in
set_option maxHeartbeats 1000000 in
theorem specBody_any (v : Value) (l : List Fl) (s : ByteArray) (w : World) (hv : FlsAt w v l) (hs : s.size ≤ maxLen) (hx : ∀ f ∈ l, (mkB f.name).size ≤ maxLen) (hl : l.length ≤ 16777216) :
    Calls Try.prog 16 #[v, .string s] w fun e w' => e = .returned (bodyV (bodyOf s.data.toList l)) ∧ Below w.heap.size w w' := by
  obtain ⟨R, hR⟩ : ∃ R, bodyOf s.data.toList l = R := ⟨_, rfl⟩
  rw [hR]
  have HR : Hid (bodyOf s.data.toList (l.drop 0) = R) := Lib.hid (by rw [List.drop_zero, hR])
  obtain ⟨p, cap, rfl⟩ := hv.slice
  have HV := Lib.hid hv
  have HX := Lib.hid hx
  have HS := Lib.hid hs
  clear hv hx hs hR
  go_enter Try.func16, Try.ntmps16
  go_wp2
  go_loopw [6] (fun i wr => ∃ k : Nat, k ≤ l.length ∧ i = .int .i64 k ∧ Hid (bodyOf s.data.toList (l.drop k) = R) ∧ Below w.heap.size w wr) (fun i _ => l.length - (intOf i).toNat)
  case atStart => exact ⟨0, Nat.zero_le _, rfl, HR, Below.refl _ _⟩
  case round =>
    obtain ⟨k, hk, rfl, HP, hB⟩ := hrel
    have hsz := hB.size
    by_cases hlt : k < l.length
    · have g1 : decide ((k : Int) < (l.length : Int)) = true := by simp; omega
      have i1 : (0 : Int) ≤ (k : Int) := by omega
      have i2 : (k : Int) < (l.length : Int) := by omega
      obtain ⟨g, off, c2, hgv, hg, hc⟩ : ∃ g off c2, Value.slice p l.length cap = .slice (some ⟨g, off, none⟩) l.length c2 ∧ g < w.heap.size ∧ ∀ k, (h : k < l.length) → w.cell? ⟨g, off + k * 2, none⟩ = some (.string (mkB l[k].name)) ∧ w.cell? ⟨g, off + k * 2 + 1, none⟩ = some (.string (mkB l[k].body)) := by
        rcases HV.out with ⟨h, _⟩ | h
        · rw [h] at hlt; simp at hlt
        · exact h
      injection hgv with hgv1 hgv2 hgv3
      subst hgv1 hgv3
      obtain ⟨x1, x2⟩ := hc k hlt
      have hP := HP.out
      rw [bodyOf_drop _ _ _ hlt] at hP
      have SM := Lib.hid (fun w => specSame_any (mkB l[k].name) s w (HX.out _ (List.getElem_mem hlt)) HS.out)
      rw [mkB_list] at SM
      have y1 := (hB.cell (p := ⟨g, off + k * 2, none⟩) hg).trans x1
      have y2 := fun W (h : Below w.heap.size w W) => (h.cell (p := ⟨g, off + k * 2 + 1, none⟩) hg).trans x2
      generalize mkB l[k].name = nm at y1 SM
      obtain ⟨bl, hbl⟩ : ∃ bl, l[k].body = bl := ⟨_, rfl⟩
      rw [hbl] at hP y2
      have Y2 := Lib.hid y2
      clear hc x1 x2 y2 HP hbl
      cases hsm : sameB l[k].name s.data.toList with
      | true =>
        rw [hsm] at hP SM
        obtain rfl : some bl = R := hP
        have HB := Lib.hid hB
        clear hsm hB
        go_wp2_with fail
        refine (SM.out _).mono ?_
        rintro e w1 ⟨rfl, hB1⟩
        have B1 := Lib.hid (HB.out.trans (hB1.mono hsz))
        have z2 := Y2.out w1 B1.out
        clear hB1
        go_wp2_with fail
        go_ret2
        exact ⟨rfl, B1.out⟩
      | false =>
        rw [hsm, if_neg (by simp)] at hP
        rw [hsm] at SM
        have HP := Lib.hid hP
        have HB := Lib.hid hB
        clear hsm hB hP
        go_wp2_with fail
        refine (SM.out _).mono ?_
        rintro e w1 ⟨rfl, hB1⟩
        have B1 := Lib.hid (HB.out.trans (hB1.mono hsz))
        clear hB1
        go_wp2_with fail
        go_roundw
        case rel => exact ⟨k + 1, by omega, by go_num, HP, B1.out⟩
        case measure => simp [intOf]; omega
    · obtain rfl : k = l.length := by omega
      have g1 : decide ((l.length : Int) < (l.length : Int)) = false := by simp
      have hP := HP.out
      rw [List.drop_length] at hP
      obtain rfl : none = R := hP
      clear HP HR
      go_wp2_with fail
      go_ret2
      exact ⟨rfl, hB⟩
end Go.Proofs.Ytfgfbdfijpecfaa
