/-
  The draws of words: DrawGetWord.
-/
import Derived.Test.YtconopkmiicjeaaDoorDrawWd
import Derived.Test.YtconopkmiicjeaaDoorPickI
import Derived.Test.YtconopkmiicjeaaDoorWdB
import Derived.Test.YtconopkmiicjeaaDoorWdV
namespace Go.Proofs.YtconopkmiicjeaaDoor
set_option linter.unusedVariables false
open Go.RowKit

/-- A short text and a place are drawn. -/
def DrawsAt (w : World) (e : Ending) (w' : World) : Prop := ∃ (s : ByteArray) (p : Int), e = .returned (.tuple #[.string s, .int .i64 p]) ∧ s.size ≤ 400 ∧ -1 ≤ p ∧ p ≤ 400 ∧ Below w.heap.size w w'

set_option maxRecDepth 100000 in
set_option maxHeartbeats 1000000 in
theorem drawGetWord_any (K : Code) (w0 w : World) (hr : IsRow .u8 w0 K.a K.len K.cap K.zs) (hl : K.len ≤ 1048576) (hb : Below w0.heap.size w0 w) :
    Calls Tryd.prog 18 #[.slice K.a K.len K.cap] w (DrawsAt w) := by
  go_enter Tryd.func18, Tryd.ntmps18
  go_wp2_with fail
  refine (new_any K w0 w hr hl hb).mono ?_
  rintro e w1 ⟨h1, rfl, hc1, hB1⟩
  have C1 := Lib.hid hc1
  have B1 := Lib.hid hB1
  clear hc1 hB1
  go_wp2_with fail
  refine (pick_lit C1.out 2 (by decide) (by rfl) (by decide) (by decide)).mono ?_
  rintro e w2 ⟨hd, i2, h2, rfl, hhd, hc2, hg2⟩
  have C2 := Lib.hid hc2
  have B2 := Lib.hid (below_step B1.out hg2 (Nat.le_refl _))
  clear hc2 hg2
  go_wp2_with fail
  refine (text3_any C2.out).mono ?_
  rintro e w3 ⟨t, i3, h3, rfl, hts, htk, hc3, hg3⟩
  have hpl : (⟨(putWd t.data.toList).toArray⟩ : ByteArray).size ≤ 130 := by
    show (putWd t.data.toList).toArray.size ≤ 130
    rw [List.size_toArray]
    exact putWd_short (by simpa using htk)
  have PW := Lib.hid (fun w => specPutWord_any t w (by omega))
  generalize (⟨(putWd t.data.toList).toArray⟩ : ByteArray) = pw at hpl PW
  have C3 := Lib.hid hc3
  have B3 := Lib.hid (below_step B2.out hg3 (Nat.le_refl _))
  clear hc3 hg3 htk
  go_wp2_with fail
  refine (PW.out _).mono ?_
  rintro e w4 ⟨rfl, hB4⟩
  have C4 := Lib.hid (C3.out.later hB4)
  have B4 := Lib.hid (B3.out.trans (hB4.mono B3.out.size))
  clear hB4
  go_wp2_with fail
  refine (bent_any C4.out pw (by omega)).mono ?_
  rintro e w5 ⟨b, i5, h5, rfl, hbs, hc5, hg5⟩
  have C5 := Lib.hid hc5
  have B5 := Lib.hid (below_step B4.out hg5 (Nat.le_refl _))
  have hbs2 : b.size ≤ 230 := by omega
  clear hc5 hg5 hbs
  have q1 : ¬ 9223372036854775807 < hd.size + b.size := by omega
  go_wp2_with fail
  refine (pick_lit C5.out 5 (by decide) (by rfl) (by decide) (by decide)).mono ?_
  rintro e w6 ⟨tl, i6, h6, rfl, htl, hc6, hg6⟩
  have C6 := Lib.hid hc6
  have B6 := Lib.hid (below_step B5.out hg6 (Nat.le_refl _))
  clear hc6 hg6
  go_wp2_with fail
  have hS : (hd ++ b ++ tl).size ≤ 400 := by simp only [ByteArray.size_append]; omega
  generalize hd ++ b ++ tl = S at hS ⊢
  refine (once_any C6.out 4 (by decide) (by decide)).mono ?_
  rintro e w7 ⟨o7, i7, h7, rfl, hc7, hg7⟩
  have C7 := Lib.hid hc7
  have B7 := Lib.hid (below_step B6.out hg7 (Nat.le_refl _))
  clear hc7 hg7 hbs2 htl q1
  cases o7 with
  | false =>
    go_wp2_with fail
    refine (pickInt_lit C7.out [(hd.size : Int), (hd.size : Int), (hd.size : Int), 0, -1, (S.size : Int)] (fun x => -1 ≤ x ∧ x ≤ 400) (by intro x hx; simp only [List.mem_cons, List.not_mem_nil, or_false] at hx; omega) (by rfl) (by rfl) (by decide) (by decide)).mono ?_
    rintro e w8 ⟨p, i8, h8, rfl, hp, hc8, hg8⟩
    have B8 := Lib.hid (below_step B7.out hg8 (Nat.le_refl _))
    clear hc8 hg8
    go_wp2_with fail
    go_ret2
    exact ⟨S, p, rfl, hS, hp.1, hp.2, B8.out⟩
  | true =>
    go_wp2_with fail
    refine (pick_lit C7.out 20 (by decide) (by rfl) (by decide) (by decide)).mono ?_
    rintro e w8 ⟨u, i8, h8, rfl, hu, hc8, hg8⟩
    have C8 := Lib.hid hc8
    have B8 := Lib.hid (below_step B7.out hg8 (Nat.le_refl _))
    clear hc8 hg8
    have q2 : ¬ 9223372036854775807 < hd.size + u.size := by omega
    have hsz : (hd ++ u).size ≤ 400 := by simp only [ByteArray.size_append]; omega
    go_wp2_with fail
    refine (pickInt_lit C8.out [(hd.size : Int), (hd.size : Int), (hd.size : Int), 0, -1, (hd.size : Int) + (u.size : Int)] (fun x => -1 ≤ x ∧ x ≤ 400) (by intro x hx; simp only [List.mem_cons, List.not_mem_nil, or_false] at hx; omega) (by rfl) (by rfl) (by decide) (by decide)).mono ?_
    rintro e w9 ⟨p, i9, h9, rfl, hp, hc9, hg9⟩
    have B9 := Lib.hid (below_step B8.out hg9 (Nat.le_refl _))
    clear hc9 hg9
    go_wp2_with fail
    go_ret2
    exact ⟨hd ++ u, p, rfl, hsz, hp.1, hp.2, B9.out⟩
end Go.Proofs.YtconopkmiicjeaaDoor
