/-
  The law FnFields, given the walks of impl's Fields and PutFields.
-/
import Derived.Test.YtfgfbdfijpecfaaDoorDrawFf
import Derived.Test.YtfgfbdfijpecfaaDoorFlR
import Derived.Test.YtfgfbdfijpecfaaDoorFlN
import Derived.Test.YtfgfbdfijpecfaaDoorPutIs
import Derived.Test.YtfgfbdfijpecfaaDoorFieldsIs
import Derived.Test.YtfgfbdfijpecfaaDoorTrimA
import Derived.Test.YtfgfbdfijpecfaaDoorBig
import Derived.Deep.RegionHeld3
namespace Go.Proofs.YtfgfbdfijpecfaaDoor
set_option linter.unusedVariables false
open Go.RowKit

/-- ' and more'. -/
def moreB : List UInt8 := [32, 97, 110, 100, 32, 109, 111, 114, 101]
theorem moreB_line : noMark moreB := by
  intro i ⟨h1, _⟩
  have hm : (13 : UInt8) ∈ moreB := List.mem_iff_getElem?.2 ⟨i, h1⟩
  exact absurd hm (by decide)
theorem fls_last {w : World} {B : Nat} {e : TypeId} {g cap M : Nat} {l : List Fl} (h : w.ownsRow B e 2 (.slice (some ⟨g, 0, none⟩) l.length cap) l.length (flCells l)) (hM : l.length = M + 1) (f : Fl) (hf : l[M]? = some f) :
    g < w.heap.size ∧ w.cell? ⟨g, M * 2, none⟩ = some (.string (mkB f.name)) ∧ w.cell? ⟨g, M * 2 + 1, none⟩ = some (.string (mkB f.body)) := by
  obtain ⟨h1, h2⟩ := flCells_at l M (by omega)
  rw [List.getElem?_eq_getElem (by omega)] at hf
  rw [Option.some.inj hf] at h1 h2
  exact ⟨(h.lt g rfl).2, (h.cellAt (M * 2) (show M * 2 < l.length * 2 by omega)).trans h1, (h.cellAt (M * 2 + 1) (show M * 2 + 1 < l.length * 2 by omega)).trans h2⟩

theorem small64 (M : Nat) (h : M ≤ 1000) : wrap64 (M : Int) = (M : Int) := by unfold wrap64; omega
theorem smallI64 (M : Nat) (h : M ≤ 1000) : IntKind.i64.wrap (M : Int) = (M : Int) := by rw [IntKind.wrap_i64]; omega
theorem Cells4.keep1 {wr w7 : World} {gl gm a b c d : Nat} {p q r s : Value} (hB7 : Below wr.heap.size wr w7) (k1 : gl < wr.heap.size) (k2 : gm < wr.heap.size)
    (x1 : wr.cell? ⟨gl, a, none⟩ = some p) (x2 : wr.cell? ⟨gl, b, none⟩ = some q) (y1 : wr.cell? ⟨gm, c, none⟩ = some r) (y2 : wr.cell? ⟨gm, d, none⟩ = some s) :
    w7.cell? ⟨gl, a, none⟩ = some p ∧ w7.cell? ⟨gl, b, none⟩ = some q ∧ w7.cell? ⟨gm, c, none⟩ = some r ∧ w7.cell? ⟨gm, d, none⟩ = some s :=
  ⟨(hB7.cell (p := ⟨gl, a, none⟩) k1).trans x1, (hB7.cell (p := ⟨gl, b, none⟩) k1).trans x2, (hB7.cell (p := ⟨gm, c, none⟩) k2).trans y1, (hB7.cell (p := ⟨gm, d, none⟩) k2).trans y2⟩
theorem Cells4.keep2 {wr w7 w8 : World} {gl gm a b c d : Nat} {p q r s : Value} (hB8 : Below w7.heap.size w7 w8) (hB7 : Below wr.heap.size wr w7) (k1 : gl < wr.heap.size) (k2 : gm < wr.heap.size)
    (x1 : wr.cell? ⟨gl, a, none⟩ = some p) (x2 : wr.cell? ⟨gl, b, none⟩ = some q) (y1 : wr.cell? ⟨gm, c, none⟩ = some r) (y2 : wr.cell? ⟨gm, d, none⟩ = some s) :
    w8.cell? ⟨gl, a, none⟩ = some p ∧ w8.cell? ⟨gl, b, none⟩ = some q ∧ w8.cell? ⟨gm, c, none⟩ = some r ∧ w8.cell? ⟨gm, d, none⟩ = some s :=
  Cells4.keep1 (hB7.trans (hB8.mono hB7.size)) k1 k2 x1 x2 y1 y2
theorem Cells4.keep {wr w7 w8 w9 : World} {gl gm a b c d : Nat} {p q r s : Value} (hB9 : Below w8.heap.size w8 w9) (hB8 : Below w7.heap.size w7 w8) (hB7 : Below wr.heap.size wr w7) (k1 : gl < wr.heap.size) (k2 : gm < wr.heap.size)
    (x1 : wr.cell? ⟨gl, a, none⟩ = some p) (x2 : wr.cell? ⟨gl, b, none⟩ = some q) (y1 : wr.cell? ⟨gm, c, none⟩ = some r) (y2 : wr.cell? ⟨gm, d, none⟩ = some s) :
    w9.cell? ⟨gl, a, none⟩ = some p ∧ w9.cell? ⟨gl, b, none⟩ = some q ∧ w9.cell? ⟨gm, c, none⟩ = some r ∧ w9.cell? ⟨gm, d, none⟩ = some s :=
  Cells4.keep1 ((hB7.trans (hB8.mono hB7.size)).trans (hB9.mono (Nat.le_trans hB7.size hB8.size))) k1 k2 x1 x2 y1 y2

set_option maxRecDepth 100000 in
set_option maxHeartbeats 2000000 in
theorem lawFields_walk (IF : FieldsIs) (IP : PutIs) (a0 : Option Addr) (len0 cap0 : Nat) (z0 : List Int) (w : World) (w0 : IsRow .u8 w a0 len0 cap0 z0) (hsh : w.ShapedOpen Tryd.prog) :
    Calls Tryd.prog 3 #[.slice a0 len0 cap0] w fun e w' => e = .returned (.bool true) ∧ Below w.heap.size w w' := by
  have W0 := Lib.hid w0
  have HM := Lib.hid (maxLenAt_of_shaped hsh)
  clear w0 hsh
  by_cases hl : len0 ≤ 1048576
  · go_enter Tryd.func3, Tryd.ntmps3
    go_wp2_with fail
    refine (big_no _ _ _ _ hl).mono ?_
    rintro e wx ⟨rfl, hwx⟩
    rw [hwx]
    clear hwx wx
    go_wp2_with fail
    refine (drawFields_any ⟨a0, len0, cap0, z0⟩ w w W0.out hl (Below.refl _ _)).mono ?_
    rintro e w1 ⟨s, rfl, hs, hB1⟩
    have B1 := Lib.hid hB1
    have M1 := Lib.hid (HM.out.after B1.out)
    have DS := Lib.hid hs
    clear hB1 hs
    go_wp2_with fail
    refine (IF s w1 M1.out (by have := DS.out; omega)).mono ?_
    have SF := Lib.hid (fun w => specFields_any s w (by have := DS.out; omega))
    obtain ⟨q1, q2⟩ := fieldsL_bounds s.data.toList
    have hsl : s.data.toList.length = s.size := by simp
    rw [hsl] at q1 q2
    have hgood := fieldsL_good s.data.toList
    generalize fieldsL s.data.toList = l at q1 q2 hgood SF
    rintro e w2 ⟨vl, rfl, hrl, hB2⟩
    have GD := Lib.hid hgood
    have DL : Hid ((putL l).length ≤ 5004 ∧ l.length ≤ 1001) := Lib.hid (by have := DS.out; omega)
    have RL2 := Lib.hid hrl
    have B2 := Lib.hid (B1.out.trans (hB2.mono B1.out.size))
    clear q1 q2 hgood hrl hB2 hsl
    go_wp2_with fail
    refine (SF.out _).mono ?_
    rintro e w3 ⟨vs, rfl, hrs, hB3⟩
    have RL3 := Lib.hid (row_lat RL2.out hB3)
    have RS3 := Lib.hid hrs
    have B3 := Lib.hid (B2.out.trans (hB3.mono B2.out.size))
    clear hrs hB3
    go_wp2_with fail
    refine (sameFls_yes _ _ l w3 (fls_of_row RL3.out) (fls_of_row RS3.out) (by have := DL.out; omega)).mono ?_
    rintro e w4 ⟨rfl, hB4⟩
    have RL4 := Lib.hid (row_lat RL3.out hB4)
    have B4 := Lib.hid (B3.out.trans (hB4.mono B3.out.size))
    clear hB4
    go_wp2_with fail
    refine (IP vl l w4 (fls_of_row RL4.out) (by have := DL.out; omega) (by have := DL.out; omega)).mono ?_
    rintro e w5 ⟨rfl, hB5⟩
    have RL5 := Lib.hid (row_lat RL4.out hB5)
    have B5 := Lib.hid (B4.out.trans (hB5.mono B4.out.size))
    have M5 := Lib.hid (HM.out.after B5.out)
    clear hB5
    have hcat : mkB (putL l) ++ ⟨#[32, 97, 110, 100, 32, 109, 111, 114, 101, 13, 10]⟩ = mkB (putL l ++ (moreB ++ [13, 10])) := by
      apply ByteArray.ext
      simp [mkB, moreB]
    have hml : (moreB ++ [13, 10]).length = 11 := rfl
    have IFM := Lib.hid (fun w hm => IF (mkB (putL l ++ (moreB ++ [13, 10]))) w hm (by rw [mkB_size, List.length_append, hml]; have := DL.out; omega))
    rw [mkB_list] at IFM
    have n1 : (mkB (putL l)).size = (putL l).length := mkB_size _
    have HCAT := Lib.hid hcat
    clear hcat hml
    generalize hZ : mkB (putL l ++ (moreB ++ [13, 10])) = xz at IFM HCAT
    clear hZ
    rcases List.eq_nil_or_concat l with rfl | ⟨l0, f, rfl⟩
    · have hx0 : mkB (putL []) = ⟨#[]⟩ := rfl
      have hm0 : fieldsL (putL [] ++ (moreB ++ [13, 10])) = [] := by
        have := fields_lone moreB moreB_line (by decide)
        simpa [putL] using this
      rw [hm0] at IFM
      rw [hx0] at HCAT
      obtain ⟨pl, cl, rfl⟩ := row_slice RL5.out
      rw [hx0]
      clear n1 hm0 hx0
      go_wp2_with fail
      rw [HCAT.out]
      refine (IFM.out _ M5.out).mono ?_
      rintro e w6 ⟨vm, rfl, hrm, hB6⟩
      obtain ⟨pm, cm, rfl⟩ := row_slice hrm
      have B6 := Lib.hid (B5.out.trans (hB6.mono B5.out.size))
      clear hB6 hrm
      go_wp2_with fail
      go_ret
      exact ⟨rfl, B6.out⟩
    · rw [List.concat_eq_append] at *
      have hmore := fields_more l0 f moreB (fun g hg => GD.out g (by simp [hg])) (GD.out f (by simp)) (by decide) moreB_line
      rw [hmore] at IFM
      have hput : fieldsL (putL (l0 ++ [f])) = l0 ++ [f] := fields_put _ GD.out
      have IFX := Lib.hid (fun w hm => IF (mkB (putL (l0 ++ [f]))) w hm (by rw [mkB_size]; have := DL.out; omega))
      rw [mkB_list, hput] at IFX
      have hfl : (mkB f.body).size ≤ 5004 := by
        have := putL_mem (l := l0 ++ [f]) (f := f) (by simp)
        have := DL.out
        rw [mkB_size]; omega
      have TR := Lib.hid (fun w => implTrim_any (mkB f.body ++ ⟨#[32, 97, 110, 100, 32, 109, 111, 114, 101]⟩) w (by rw [ByteArray.size_append]; have : (⟨#[32, 97, 110, 100, 32, 109, 111, 114, 101]⟩ : ByteArray).size = 9 := rfl; omega))
      have htr : (⟨(Lib.trimS (mkB f.body ++ ⟨#[32, 97, 110, 100, 32, 109, 111, 114, 101]⟩).data.toList [32, 9]).toArray⟩ : ByteArray) = mkB (Lib.trimS (f.body ++ moreB) [32, 9]) := by
        show _ = (⟨_⟩ : ByteArray)
        congr 3
      rw [htr] at TR
      generalize hm2 : Lib.trimS (f.body ++ moreB) [32, 9] = mb at TR IFM
      have hlen1 : (l0 ++ [f]).length = l0.length + 1 := by simp
      have hlen2 : (l0 ++ [Fl.mk f.name mb]).length = l0.length + 1 := by simp
      have hat1 : (l0 ++ [f])[l0.length]? = some f := by simp
      have hat2 : (l0 ++ [Fl.mk f.name mb])[l0.length]? = some ⟨f.name, mb⟩ := by simp
      have hn : l0.length ≤ 1000 := by have := DL.out.2; omega
      generalize l0 ++ [Fl.mk f.name mb] = lm at IFM hlen2 hat2
      generalize hgl : l0 ++ [f] = l at *
      generalize l0.length = M at *
      obtain ⟨gl, cl, rfl⟩ := row_slice1 RL5.out (by omega)
      clear hm2 htr hput hmore
      generalize hx5 : mkB (putL l) = xx at IFX HCAT n1 ⊢
      have s1 : ¬ 9223372036854775807 < xx.size + 11 := by have := DL.out; omega
      clear hx5 n1
      rw [hlen1]
      go_wp2_with fail
      rw [HCAT.out]
      refine (IFM.out _ M5.out).mono ?_
      rintro e w6 ⟨vm, rfl, hrm, hB6⟩
      obtain ⟨gm, cm, rfl⟩ := row_slice1 hrm (by omega)
      have RL6 := Lib.hid (row_lat RL5.out hB6)
      have B6 := Lib.hid (B5.out.trans (hB6.mono B5.out.size))
      have M6 := Lib.hid (HM.out.after B6.out)
      have RM6 := Lib.hid hrm
      rw [hlen2]
      clear hB6 hrm
      go_wp2_with fail
      obtain ⟨k1, x1, x2⟩ := fls_last RL6.out hlen1 f hat1
      obtain ⟨k2, y1, y2⟩ := fls_last RM6.out hlen2 _ hat2
      dsimp only at y1 y2
      generalize mkB f.name = nm at x1 y1
      generalize mkB f.body = bd at x2 TR hfl
      generalize mkB mb = mb2 at y2 TR
      have t1 : ¬ 9223372036854775807 < bd.size + 9 := by omega
      have c1 : (0 : Int) ≤ (M : Int) := by omega
      have c2 : (M : Int) < (M : Int) + 1 := by omega
      have c3 : IntKind.i64.wrap ((M : Int) + 1 - 1) = (M : Int) := by rw [IntKind.wrap_i64]; omega
      have hl32 : l.length ≤ 4294967296 := by omega
      have c5 := small64 M hn
      have c6 := smallI64 M hn
      have g7 : (((M : Int) + 1) == ((M : Int) + 1)) = true := by simp
      have F6 := fls_of_row RL6.out
      rw [hlen1] at F6
      clear hat1 hat2
      go_region_held3 (fun w' => w'.cell? ⟨gl, M * 2, none⟩ = some (.string nm) ∧ w'.cell? ⟨gl, M * 2 + 1, none⟩ = some (.string bd) ∧ w'.cell? ⟨gm, M * 2, none⟩ = some (.string nm) ∧ w'.cell? ⟨gm, M * 2 + 1, none⟩ = some (.string mb2)) (first | go_keep | exact Cells4.keep hB9 hB8 hB7 k1 k2 x1 x2 y1 y2 | exact Cells4.keep2 hB8 hB7 k1 k2 x1 x2 y1 y2 | exact Cells4.keep1 hB7 k1 k2 x1 x2 y1 y2 | exact ⟨x1, x2, y1, y2⟩) (first | (go_at_call 8; refine (IFX.out w6.drew (show MaxLenAt w6.drew from M6.out)).mono ?_; rintro e w7 ⟨vx, rfl, hrx, hB70⟩; have hB7 : Below w6.heap.size w6 w7 := ((Below.refl _ w6).drew).trans hB70) | (go_at_call 9; refine (sameFls_yes _ _ l w7 (fls_of_row hrx) (F6.later hB7 (Nat.le_refl _)) hl32).mono ?_; rintro e w8 ⟨rfl, hB8⟩) | (go_at_call 12; refine (TR.out _).mono ?_; rintro e w9 ⟨rfl, hB9⟩))
      have HB := Lib.hid ((B6.out.trans (hB7.mono B6.out.size)).trans ((hB8.trans (hB9.mono hB8.size)).mono (Nat.le_trans B6.out.size hB7.size)))
      clear hB7 hB8 hB9 c5 c6
      go_wp2_with fail
      go_ret
      exact ⟨rfl, HB.out⟩
  · go_enter Tryd.func3, Tryd.ntmps3
    go_wp2_with fail
    refine (big_yes _ _ _ _ (by omega)).mono ?_
    rintro e w1 ⟨rfl, rfl⟩
    go_wp2_with fail
    go_ret
    exact ⟨rfl, Below.refl _ _⟩
end Go.Proofs.YtfgfbdfijpecfaaDoor
