/-
  Addresses: the exact law on ReadAddrs.
-/
import Derived.Test.YtplaomiegkaaiaaDoorRaS
import Derived.Test.YtplaomiegkaaiaaDoorRaI
import Derived.Test.YtplaomiegkaaiaaDoorAdE
import Derived.Test.YtplaomiegkaaiaaDoorAdH
namespace Go.Proofs.YtplaomiegkaaiaaDoor
set_option linter.unusedVariables false
open Go.RowKit

theorem addrsL_len (s : List UInt8) : (addrsL s).length ≤ s.length + 1 := by
  have h1 := List.length_filterMap_le addrOf (comL s)
  have h2 := (comL_total s).2
  unfold addrsL
  omega

set_option maxRecDepth 100000 in
set_option maxHeartbeats 1000000 in
theorem exactReadAddrs_walk (s : ByteArray) (w : World) (hs : s.size ≤ maxLen) :
    Calls Tryd.prog 8 #[.string s] w fun e w' => e = .returned (.bool true) ∧ Below w.heap.size w w' := by
  unfold maxLen at hs
  by_cases h1 : s.size ≤ 1048576
  · have H1 := Lib.hid (fun w => specReadAddrs_any s w h1)
    have H2 := Lib.hid (fun w => implReadAddrs_any s w h1)
    have hn := addrsL_len s.data.toList
    have hsl : s.data.toList.length = s.size := by simp
    rw [hsl] at hn
    generalize addrsL s.data.toList = l at H1 H2 hn
    have hn1 : l.length ≤ 10000000 := by omega
    have hn2 : l.length ≤ 4294967296 := by omega
    clear hsl hn
    go_enter Tryd.func8, Tryd.ntmps8
    go_wp2_with fail
    refine (H1.out _).mono ?_
    rintro e w1 ⟨va, rfl, hra, hB1⟩
    have RA1 := Lib.hid hra
    have B1 := Lib.hid hB1
    clear hra hB1
    go_wp2_with fail
    refine (H2.out _).mono ?_
    rintro e w2 ⟨vb, rfl, hrb, hB2⟩
    have RB2 := Lib.hid hrb
    have RA2 := Lib.hid (row_lat RA1.out hB2)
    have B2 := Lib.hid (B1.out.trans (hB2.mono B1.out.size))
    have AP : Hid (Apart vb va) := Lib.hid (fun g hg hx => by
      have := (RB2.out.lt g hg).1
      have := (RA1.out.lt g hx).2
      omega)
    have BS := Lib.hid hB2.size
    clear hrb hB2
    go_wp2_with fail
    refine (eqAds_yes vb va l w2 (ads_of_row RB2.out) (ads_of_row RA2.out) hn2).mono ?_
    rintro e w3 ⟨rfl, hB3⟩
    have RB3 := Lib.hid (row_lat RB2.out hB3)
    have RA3 := Lib.hid (row_lat RA2.out hB3)
    have B3 := Lib.hid (B2.out.trans (hB3.mono B2.out.size))
    clear hB3
    go_wp2_with fail
    refine (markAds_any vb l 1 w1.heap.size w3 RB3.out hn1 (by decide)).mono ?_
    rintro e w4 ⟨rfl, hr4, hg4⟩
    have RA4 := Lib.hid (row_staysG RA3.out hg4 AP.out)
    have B4 : Hid (Below w.heap.size w w4) := Lib.hid (B3.out.grown hg4 B3.out.size (fun k e => Nat.le_trans B1.out.size (RB3.out.lt k e).1))
    have FB4 : Hid (AdsAt w4 vb (adMarks 1 l.length)) := Lib.hid (ads_of_row (by rw [adMarks_len]; exact hr4))
    clear hr4 hg4
    generalize hN : l.length = N at *
    obtain ⟨Q, hQ⟩ : ∃ Q : Int, ((1 + 3 * N : Nat) : Int) = Q := ⟨_, rfl⟩
    rw [hQ]
    have HQ := Lib.hid hQ
    have g1 : decide (Q < 0) = false := by simp; omega
    have g2 : (Q != Q) = false := by simp
    clear hQ
    go_wp2_with fail
    refine (heldAds_yes vb N 1 w4 FB4.out hn1 (by decide)).mono ?_
    rintro e w5 ⟨rfl, hB5⟩
    have FA5 := Lib.hid ((ads_of_row (l := l) (by rw [hN]; exact RA4.out)).later hB5 (Nat.le_refl _))
    have FB5 := Lib.hid (FB4.out.later hB5 (Nat.le_refl _))
    have B5 := Lib.hid (B4.out.trans (hB5.mono B4.out.size))
    clear hB5
    rw [HQ.out]
    go_wp2_with fail
    refine (H2.out _).mono ?_
    rintro e w6 ⟨vc, rfl, hrc, hB6⟩
    have RC6 := Lib.hid hrc
    have FA6 := Lib.hid (FA5.out.later hB6 (Nat.le_refl _))
    have FB6 := Lib.hid (FB5.out.later hB6 (Nat.le_refl _))
    have B6 := Lib.hid (B5.out.trans (hB6.mono B5.out.size))
    clear hrc hB6
    go_wp2_with fail
    refine (eqAds_yes vc va l w6 (ads_of_row RC6.out) FA6.out (by omega)).mono ?_
    rintro e w7 ⟨rfl, hB7⟩
    have FB7 := Lib.hid (FB6.out.later hB7 (Nat.le_refl _))
    have B7 := Lib.hid (B6.out.trans (hB7.mono B6.out.size))
    clear hB7
    go_wp2_with fail
    refine (heldAds_yes vb N 1 w7 FB7.out hn1 (by decide)).mono ?_
    rintro e w8 ⟨rfl, hB8⟩
    have B8 := Lib.hid (B7.out.trans (hB8.mono B7.out.size))
    clear hB8
    rw [HQ.out]
    go_wp2_with fail
    go_ret
    exact ⟨rfl, B8.out⟩
  · go_enter Tryd.func8, Tryd.ntmps8
    go_wp2
    go_ret
    exact ⟨rfl, Below.refl _ _⟩
end Go.Proofs.YtplaomiegkaaiaaDoor
