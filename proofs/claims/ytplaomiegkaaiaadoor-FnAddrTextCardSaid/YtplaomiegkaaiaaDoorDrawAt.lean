/-
  The draw of DrawAddrText.
-/
import Derived.Test.YtplaomiegkaaiaaDoorDrawAd
import Derived.Test.YtplaomiegkaaiaaDoorDrawTw
import Derived.Test.YtplaomiegkaaiaaDoorCurG
import Derived.Test.YtplaomiegkaaiaaDoorRaS
namespace Go.Proofs.YtplaomiegkaaiaaDoor
set_option linter.unusedVariables false
open Go.RowKit

/-- A list of addresses is drawn, in memory of its own. -/
def DrawsAl (w : World) (e : Ending) (w' : World) : Prop :=
  ∃ (l : List Ad) (v : Value), e = .returned v ∧ adSizes l ≤ 2000 ∧ l.length ≤ 1000 ∧ w'.ownsRow w.heap.size 29 3 v l.length (adCells l) ∧ Below w.heap.size w w'
theorem addrs_bound (s : List UInt8) : adSizes (addrsL s) ≤ s.length ∧ (addrsL s).length ≤ s.length + 1 := by
  have h1 := addrs_size (comL s)
  have h2 := comL_total s
  have h3 := filterMap_len (comL s)
  unfold adSizes addrsL
  omega

set_option maxRecDepth 100000 in
set_option maxHeartbeats 1000000 in
theorem drawAddrText_any (K : Code) (w0 w : World) (hr : IsRow .u8 w0 K.a K.len K.cap K.zs) (hl : K.len ≤ 1048576) (hb : Below w0.heap.size w0 w) :
    Calls Tryd.prog 25 #[.slice K.a K.len K.cap] w (DrawsAl w) := by
  obtain ⟨j0, hj, hy0, hy1, hy2⟩ := info_parts infoAd
  go_enter Tryd.func25, Tryd.ntmps25
  go_wp2_with fail
  refine (new_any K w0 w hr hl hb).mono ?_
  rintro e w1 ⟨h1, rfl, hc1, hB1⟩
  have C1 := Lib.hid hc1
  have B1 := Lib.hid hB1
  clear hc1 hB1
  go_wp2_with fail
  refine (text6_any C1.out).mono ?_
  rintro e w2 ⟨s, i2, h2, rfl, hs, hc2, hg2⟩
  have C2 := Lib.hid hc2
  have B2 := Lib.hid (below_step B1.out hg2 (Nat.le_refl _))
  have hg : w.heap.size < w2.heap.size := hc2.lt
  clear hc2 hg2
  have RA := Lib.hid (fun w => specReadAddrs_any s w (by omega))
  have hbd := addrs_bound s.data.toList
  rw [show s.data.toList.length = s.size by simp] at hbd
  generalize addrsL s.data.toList = l at RA hbd
  go_wp2_with fail
  refine (RA.out _).mono ?_
  rintro e w3 ⟨v, rfl, hr3, hB3⟩
  have C3 := Lib.hid (C2.out.past hB3 hg)
  have B3 := Lib.hid (B2.out.trans (hB3.mono B2.out.size))
  have R3 := Lib.hid hr3
  have S3 : w2.heap.size ≤ w3.heap.size := hB3.size
  clear hB3 hr3
  go_wp2_with fail
  refine (once_any C3.out 6 (by decide) (by decide)).mono ?_
  rintro e w4 ⟨o4, i4, h4, rfl, hc4, hg4⟩
  have C4 := Lib.hid hc4
  have B4 := Lib.hid (below_step B3.out hg4 (Nat.le_refl _))
  have R4 := Lib.hid (row_stayG hg R3.out hg4)
  have S4 : w2.heap.size ≤ w4.heap.size := Nat.le_trans S3 hg4.size
  clear hc4 hg4
  cases o4 with
  | false =>
    go_wp2_with fail
    go_ret
    exact ⟨l, v, rfl, by omega, by omega, row_baseL R4.out (by omega), B4.out⟩
  | true =>
    go_wp2_with fail
    refine (pick_lit C4.out 100 (by decide) (by rfl) (by decide) (by decide)).mono ?_
    rintro e w5 ⟨t, i5, h5, rfl, ht, hc5, hg5⟩
    have C5 := Lib.hid hc5
    have B5 := Lib.hid (below_step B4.out hg5 (Nat.le_refl _))
    have R5 := Lib.hid (row_stayG hg R4.out hg5)
    have S5 : w2.heap.size ≤ w5.heap.size := Nat.le_trans S4 hg5.size
    clear hc5 hg5
    go_wp2_with fail
    refine (text3_any C5.out).mono ?_
    rintro e w6 ⟨u, i6, h6, rfl, hu, _, hc6, hg6⟩
    have B6 := Lib.hid (below_step B5.out hg6 (Nat.le_refl _))
    have R6 := Lib.hid (row_stayG hg R5.out hg6)
    have S6 : w2.heap.size ≤ w6.heap.size := Nat.le_trans S5 hg6.size
    clear hc6 hg6
    go_wp2_with (first | (at_builtin; refine wpList_append_own _ rfl _ _ 25 rfl w2.heap.size 29 j0 (.agg #[.string ⟨#[]⟩, .string ⟨#[]⟩, .string ⟨#[]⟩]) 3 48 Tryd.underlying25 hj hy0 hy1 hy2 rfl (by decide) _ _ _ rfl (R6.out.alloc _) ⟨w6.heap.size, 0, none⟩ 1 1 [.string t, .string u, .string ⟨#[120]⟩] rfl rfl (cell_three_new _ _ _ _ _ _ rfl) (by simp [Value.oneCell']) (by unfold maxLen; omega) (by omega) (by simp; omega) ?_; intro v' w7 hown' hgrow _))
    have hB7 : Below w.heap.size w w7 := (B6.out.alloc B6.out.size _).grown hgrow (by simp; omega) (fun k e => by have := (R6.out.lt k e).1; omega)
    have R7 : Hid (w7.ownsRow w2.heap.size 29 3 v' (l ++ [Ad.mk t.data.toList u.data.toList [120]]).length (adCells (l ++ [Ad.mk t.data.toList u.data.toList [120]]))) := Lib.hid (by
      rw [adCells_append]
      simpa [adCells, mkB] using hown')
    have B7 := Lib.hid hB7
    clear hown' hgrow hB7
    go_wp2_with fail
    go_ret
    refine ⟨l ++ [Ad.mk t.data.toList u.data.toList [120]], v', rfl, ?_, by simp; omega, row_baseL R7.out (by omega), B7.out⟩
    rw [adSizes_append]
    simp [adSizes, adSize]
    unfold adSizes at hbd
    omega
end Go.Proofs.YtplaomiegkaaiaaDoor
