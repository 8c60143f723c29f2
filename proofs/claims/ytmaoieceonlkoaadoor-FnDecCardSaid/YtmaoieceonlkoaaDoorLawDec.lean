/-
  The law FnDec, for every code.
-/
import Derived.Test.YtmaoieceonlkoaaDoorDecD
import Derived.Test.YtmaoieceonlkoaaDoorPickI
import Derived.Test.YtmaoieceonlkoaaDoorBig
namespace Go.Proofs.YtmaoieceonlkoaaDoor
set_option linter.unusedVariables false
open Go.RowKit

def Fits (x : Int) : Prop := -9223372036854775808 ≤ x ∧ x ≤ 9223372036854775807
/-- An int is drawn. -/
def DrawsInt (w : World) (e : Ending) (w' : World) : Prop := ∃ x : Int, e = .returned (.int .i64 x) ∧ Fits x ∧ Below w.heap.size w w'
/-- A short text is drawn. -/
def DrawsTxt (m : Nat) (w : World) (e : Ending) (w' : World) : Prop := ∃ s : ByteArray, e = .returned (.string s) ∧ s.size ≤ m ∧ Below w.heap.size w w'

set_option maxRecDepth 100000 in
set_option maxHeartbeats 1000000 in
theorem int_any {K : Code} {w0 w : World} {g i : Nat} {h : Int} (c : Cur K w0 w g i h) :
    Calls Tryd.prog 24 #[.pointer (some ⟨g, 0, none⟩)] w (DrawnInt K w0 g Fits w) := by
  have C := Lib.hid c
  clear c
  go_enter Tryd.func24, Tryd.ntmps24
  go_wp2_with fail
  refine (below_any C.out 100000 (by decide) (by decide)).mono ?_
  rintro e w1 ⟨x, i1, h1, rfl, hx0, hx1, hc1, hg1, _⟩
  have C1 := Lib.hid hc1
  have G1 := Lib.hid hg1
  clear hc1 hg1
  go_wp2_with fail
  refine (pickInt_lit C1.out [0, 1, -1, 255, 999999999, 1000000000, 9223372036854775807, -9223372036854775808, x] Fits (by
    intro y hy
    simp only [List.mem_cons, List.not_mem_nil, or_false] at hy
    unfold Fits
    omega) (by rfl) (by rfl) (by decide) (by decide)).mono ?_
  rintro e w2 ⟨y, i2, h2, rfl, hy, hc2, hg2⟩
  have C2 := Lib.hid hc2
  have G2 := Lib.hid (grownBy_trans G1.out hg2)
  have HY := Lib.hid hy
  clear hc2 hg2 hy
  go_wp2_with fail
  go_ret
  exact ⟨y, i2, h2, rfl, HY.out, C2.out, G2.out⟩

set_option maxRecDepth 100000 in
set_option maxHeartbeats 1000000 in
theorem drawDec_any (K : Code) (w0 w : World) (hr : IsRow .u8 w0 K.a K.len K.cap K.zs) (hl : K.len ≤ 1048576) (hb : Below w0.heap.size w0 w) :
    Calls Tryd.prog 9 #[.slice K.a K.len K.cap] w (DrawsInt w) := by
  go_enter Tryd.func9, Tryd.ntmps9
  go_wp2_with fail
  refine (new_any K w0 w hr hl hb).mono ?_
  rintro e w1 ⟨h1, rfl, hc1, hB1⟩
  have C1 := Lib.hid hc1
  have B1 := Lib.hid hB1
  clear hc1 hB1
  go_wp2_with fail
  refine (int_any C1.out).mono ?_
  rintro e w2 ⟨y, i2, h2, rfl, hy, hc2, hg2⟩
  have B2 := Lib.hid (below_step B1.out hg2 (Nat.le_refl _))
  have HY := Lib.hid hy
  clear hc2 hg2 hy
  go_wp2_with fail
  go_ret
  exact ⟨y, rfl, HY.out, B2.out⟩

theorem itoa_small (n : Nat) (h : n < 100000) : (⟨(Lib.itoa (n : Int)).toArray⟩ : ByteArray).size ≤ 10 := by
  show (Lib.itoa (n : Int)).toArray.size ≤ 10
  unfold Lib.itoa
  rw [if_neg (by omega)]
  have := dec_len 4 n (by have : (10 : Nat) ^ (4 + 1) = 100000 := by decide
                          omega)
  simp
  omega

set_option maxRecDepth 100000 in
set_option maxHeartbeats 1000000 in
theorem drawRead_any (K : Code) (w0 w : World) (hr : IsRow .u8 w0 K.a K.len K.cap K.zs) (hl : K.len ≤ 1048576) (hb : Below w0.heap.size w0 w) :
    Calls Tryd.prog 11 #[.slice K.a K.len K.cap] w (DrawsTxt 100 w) := by
  go_enter Tryd.func11, Tryd.ntmps11
  go_wp2_with fail
  refine (new_any K w0 w hr hl hb).mono ?_
  rintro e w1 ⟨h1, rfl, hc1, hB1⟩
  have C1 := Lib.hid hc1
  have B1 := Lib.hid hB1
  clear hc1 hB1
  go_wp2_with fail
  refine (once_any C1.out 2 (by decide) (by decide)).mono ?_
  rintro e w2 ⟨b, i2, h2, rfl, hc2, hg2⟩
  have C2 := Lib.hid hc2
  have B2 := Lib.hid (below_step B1.out hg2 (Nat.le_refl _))
  clear hc2 hg2
  cases b
  · go_wp2_with fail
    refine (below_any C2.out 100000 (by decide) (by decide)).mono ?_
    rintro e w3 ⟨x0, i3, h3, rfl, hx0, hx1, hc3, hg3, _⟩
    obtain ⟨x, rfl⟩ := Int.eq_ofNat_of_zero_le hx0
    have B3 := Lib.hid (below_step B2.out hg3 (Nat.le_refl _))
    have hsm := itoa_small x (by omega)
    generalize hs : (⟨(Lib.itoa (x : Int)).toArray⟩ : ByteArray) = s at hsm
    have HS := Lib.hid hs
    clear hc3 hg3 hs
    go_wp2_with fail
    refine (decText_any x _ (by omega) (by omega)).mono ?_
    rw [HS.out]
    rintro e w4 ⟨rfl, rfl⟩
    go_wp2_with fail
    go_ret
    exact ⟨s, rfl, by omega, B3.out⟩
  · go_wp2_with fail
    refine (pick_lit C2.out 100 (by decide) (by rfl) (by decide) (by decide)).mono ?_
    rintro e w3 ⟨s, i3, h3, rfl, hs, hc3, hg3⟩
    have B3 := Lib.hid (below_step B2.out hg3 (Nat.le_refl _))
    clear hc3 hg3
    go_wp2_with fail
    go_ret
    exact ⟨s, rfl, hs, B3.out⟩

theorem tells_good {l : List UInt8} {n : Nat} {w w' : World} {e : Ending} (hg : goodDec l n) (h : TellsDec l w e w') : e = .returned (.int .i64 n) := by
  rcases h.1 with ⟨m, g1, rfl⟩ | ⟨g1, rfl⟩
  · rw [← (goodDec_facts g1).2.1, (goodDec_facts hg).2.1]
  · exact absurd ⟨n, hg⟩ g1
theorem tells_bad {l : List UInt8} {w w' : World} {e : Ending} (hg : ¬ ∃ n, goodDec l n) (h : TellsDec l w e w') : e = .returned (.int .i64 (-1)) := by
  rcases h.1 with ⟨m, g1, rfl⟩ | ⟨g1, rfl⟩
  · exact absurd ⟨m, g1⟩ hg
  · rfl
theorem itoa_good (n : Int) (h0 : 0 ≤ n) (h1 : n ≤ 999999999) : goodDec (Lib.itoa n) n.toNat := by
  unfold Lib.itoa
  rw [if_neg (by omega)]
  exact ⟨by omega, rfl⟩
theorem itoa_bad (n : Int) (h : n < 0 ∨ 999999999 < n) : ¬ ∃ m, goodDec (Lib.itoa n) m := by
  rintro ⟨m, hm⟩
  obtain ⟨a, b, _, _⟩ := goodDec_facts hm
  have hm1 := hm.1
  unfold Lib.itoa at a b
  by_cases hn : n < 0
  · rw [if_pos hn] at a
    have := a 45 (by simp)
    unfold isDig at this
    exact absurd this (by decide)
  · rw [if_neg hn] at b
    rw [(dec_dig n.toNat).2] at b
    omega
theorem itoa_len (n : Int) (h : Fits n) : (⟨(Lib.itoa n).toArray⟩ : ByteArray).size ≤ 100 := by
  unfold Fits at h
  show (Lib.itoa n).toArray.size ≤ 100
  have h19 : (10 : Nat) ^ (19 + 1) = 100000000000000000000 := by decide
  unfold Lib.itoa
  split
  · have := dec_len 19 n.natAbs (by omega)
    simp; omega
  · have := dec_len 19 n.toNat (by omega)
    simp; omega

set_option maxRecDepth 100000 in
set_option maxHeartbeats 1000000 in
theorem lawDec_walk (a0 : Option Addr) (len0 cap0 : Nat) (z0 : List Int) (w : World) (w0 : IsRow .u8 w a0 len0 cap0 z0) (ht : Tens w) (he : Errs w) (hg : w.heap.size > 0 ∧ w.heap.size > 1 ∧ w.heap.size > 2) :
    Calls Tryd.prog 3 #[.slice a0 len0 cap0] w fun e w' => e = .returned (.bool true) ∧ Below w.heap.size w w' := by
  have W0 := Lib.hid w0
  have HTEN : Hid (∀ w', Below w.heap.size w w' → Tens w') := Lib.hid (fun w' hb => (var_below (n := "internal/strconv.uint64pow10") (g := 2) (by kernel_rfl) hb hg.2.2).trans ht)
  have HW : Hid (∀ w' (s : ByteArray), Below w.heap.size w w' → s.size ≤ 1048576 → Calls Tryd.prog 13 #[.string s] w' (TellsDec s.data.toList w')) := Lib.hid (fun w' s hb h1 => by
    obtain ⟨⟨a, b, c⟩, ⟨d, e, f⟩⟩ := he
    refine implRead_any s w' h1 ?_ ⟨⟨a, b, ?_⟩, ⟨d, e, ?_⟩⟩ ⟨by have := hb.size; omega, by have := hb.size; omega, by have := hb.size; omega⟩
    · exact HTEN.out w' hb
    · exact (var_below (n := "strconv.ErrSyntax") (g := 0) (by kernel_rfl) hb hg.1).trans c
    · exact (var_below (n := "strconv.ErrRange") (g := 1) (by kernel_rfl) hb hg.2.1).trans f)
  clear w0 ht he hg
  by_cases hl : len0 ≤ 1048576
  · go_enter Tryd.func3, Tryd.ntmps3
    go_wp2_with fail
    refine (big_no _ _ _ _ hl).mono ?_
    rintro e w1 ⟨rfl, rfl⟩
    go_wp2_with fail
    refine (drawDec_any ⟨a0, len0, cap0, z0⟩ w1 w1 W0.out hl (Below.refl _ _)).mono ?_
    rintro e w2 ⟨n, rfl, hn, hB2⟩
    have hlen := itoa_len n hn
    have HN := Lib.hid hn
    unfold Fits at hn
    obtain ⟨hn1, hn2⟩ := hn
    have B2 := Lib.hid hB2
    clear hB2
    generalize hs : (⟨(Lib.itoa n).toArray⟩ : ByteArray) = s at hlen
    have HS := Lib.hid hs
    have HSD : Hid (s.data.toList = Lib.itoa n) := Lib.hid (by rw [← hs])
    clear hs
    go_wp2_with fail
    refine (implDec_any n _ hn1 hn2 (HTEN.out _ B2.out)).mono ?_
    rw [HS.out]
    rintro e w3 ⟨rfl, hB3⟩
    have B3 := Lib.hid (B2.out.trans (hB3.mono B2.out.size))
    clear hB3
    go_wp2_with fail
    refine (drawRead_any ⟨a0, len0, cap0, z0⟩ w1 _ W0.out hl B3.out).mono ?_
    rintro e w4 ⟨r, rfl, hr, hB4⟩
    have B4 := Lib.hid (B3.out.trans (hB4.mono B3.out.size))
    clear hB4
    go_wp2_with fail
    refine (decText_any n _ hn1 hn2).mono ?_
    rw [HS.out]
    rintro e w5 ⟨rfl, rfl⟩
    go_wp2_with fail
    refine (HW.out _ r B4.out (by omega)).mono ?_
    intro e w6 hT1
    obtain ⟨v, rfl⟩ := tells_form hT1
    have T1 := Lib.hid hT1
    have B6 := Lib.hid (B4.out.trans (hT1.2.mono B4.out.size))
    clear hT1
    go_wp2_with fail
    refine (specRead_any r _ (by omega)).mono ?_
    intro e w7 hT2
    obtain rfl := (tells_same T1.out hT2).symm
    have B7 := Lib.hid (B6.out.trans (hT2.2.mono B6.out.size))
    clear hT2
    by_cases hrg : 0 ≤ n ∧ n ≤ 999999999
    · obtain ⟨hr0, hr1⟩ := hrg
      have HG := Lib.hid (itoa_good n hr0 hr1)
      have hcast : ((n.toNat : Nat) : Int) = n := Int.toNat_of_nonneg hr0
      have HCAST := Lib.hid hcast
      clear hcast
      go_wp2_with fail
      refine (HW.out _ s B7.out (by omega)).mono ?_
      intro e w8 hT3
      have B8 := Lib.hid (B7.out.trans (hT3.2.mono B7.out.size))
      rw [HSD.out] at hT3
      obtain rfl := tells_good HG.out hT3
      rw [HCAST.out]
      clear hT3
      go_wp2_with fail
      go_ret
      exact ⟨rfl, B8.out⟩
    · have HG := Lib.hid (itoa_bad n (by omega))
      by_cases hr0 : 0 ≤ n
      · have hr1 : 999999999 < n := by omega
        have hr2 : decide (n ≤ 999999999) = false := by simp; omega
        clear hrg
        go_wp2_with fail
        refine (HW.out _ s B7.out (by omega)).mono ?_
        intro e w8 hT3
        have B8 := Lib.hid (B7.out.trans (hT3.2.mono B7.out.size))
        rw [HSD.out] at hT3
        obtain rfl := tells_bad HG.out hT3
        clear hT3
        go_wp2_with fail
        go_ret
        exact ⟨rfl, B8.out⟩
      · have hr1 : n < 0 := by omega
        clear hrg hr0
        go_wp2_with fail
        refine (HW.out _ s B7.out (by omega)).mono ?_
        intro e w8 hT3
        have B8 := Lib.hid (B7.out.trans (hT3.2.mono B7.out.size))
        rw [HSD.out] at hT3
        obtain rfl := tells_bad HG.out hT3
        clear hT3
        go_wp2_with fail
        go_ret
        exact ⟨rfl, B8.out⟩
  · go_enter Tryd.func3, Tryd.ntmps3
    go_wp2_with (go_at_call 8; refine (big_yes _ _ _ _ (by omega)).mono ?_; rintro e w1 ⟨rfl, rfl⟩)
    go_ret
    exact ⟨rfl, Below.refl _ _⟩
end Go.Proofs.YtmaoieceonlkoaaDoor
