/-
  The law FnSplit, for every code.
-/
import Derived.Test.YtmaoieceonlkoaaDoorSplitC
import Derived.Test.YtmaoieceonlkoaaDoorSplitP
import Derived.Test.YtmaoieceonlkoaaDoorTexts
import Derived.Test.YtmaoieceonlkoaaDoorTrimA
import Derived.Test.YtmaoieceonlkoaaDoorDrawSp
import Derived.Test.YtmaoieceonlkoaaDoorBig
namespace Go.Proofs.YtmaoieceonlkoaaDoor
set_option linter.unusedVariables false
open Go.RowKit

theorem dw_len (p : UInt8 → Bool) : ∀ l : List UInt8, (l.dropWhile p).length ≤ l.length := fun l => (List.dropWhile_sublist p).length_le
theorem trim_le (t : ByteArray) : (⟨(Lib.trimS t.data.toList [32, 9]).toArray⟩ : ByteArray).size ≤ t.size := by
  show (Lib.trimS t.data.toList [32, 9]).toArray.size ≤ t.size
  unfold Lib.trimS Lib.trimLeftS Lib.trimRightS
  rw [List.size_toArray]
  refine Nat.le_trans (dw_len _ _) ?_
  rw [List.length_reverse]
  refine Nat.le_trans (dw_len _ _) ?_
  rw [List.length_reverse]
  exact Nat.le_of_eq (by simp)

set_option maxRecDepth 100000 in
set_option maxHeartbeats 1000000 in
theorem lawSplit_walk (a0 : Option Addr) (len0 cap0 : Nat) (z0 : List Int) (w : World) (w0 : IsRow .u8 w a0 len0 cap0 z0) (hsh : w.ShapedOpen Tryd.prog) :
    Calls Tryd.prog 4 #[.slice a0 len0 cap0] w fun e w' => e = .returned (.bool true) ∧ Below w.heap.size w w' := by
  have W0 := Lib.hid w0
  have HM := Lib.hid (maxLenAt_of_shaped hsh)
  clear w0 hsh
  by_cases hl : len0 ≤ 1048576
  · go_enter Tryd.func4, Tryd.ntmps4
    go_wp2_with fail
    refine (big_no _ _ _ _ hl).mono ?_
    rintro e w1 ⟨rfl, rfl⟩
    go_wp2_with fail
    refine (drawSplit_any ⟨a0, len0, cap0, z0⟩ w1 w1 W0.out hl (Below.refl _ _)).mono ?_
    rintro e w2 ⟨s, b, rfl, hs, hB2⟩
    have B2 := Lib.hid hB2
    clear hB2
    have M2 := Lib.hid (HM.out.after B2.out)
    go_wp2_with fail
    refine (implSplit_any s b _ (by omega) M2.out).mono ?_
    rintro e w3 ⟨v, rfl, hv, hB3⟩
    have VALS := Lib.hid (valsAt_of_row hv)
    have B3 := Lib.hid (B2.out.trans (hB3.mono B2.out.size))
    clear hv hB3
    obtain ⟨hlen, hne⟩ := split_len s b
    have HNE := Lib.hid hne
    have HSM := Lib.hid (split_small s b)
    have HJ := Lib.hid (join_split s b)
    have HSPEC : Hid (∀ w, Calls Tryd.prog 21 #[.string s, .int .u8 b.toNat] w (GivesStrs (splitAll s b) w)) := Lib.hid (fun w => specSplit_any s b w (by omega))
    clear hne
    generalize splitAll s b = L at VALS hlen HNE HSM HJ HSPEC
    go_wp2_with fail
    refine (drawTrim_any ⟨a0, len0, cap0, z0⟩ w1 _ W0.out hl B3.out).mono ?_
    rintro e w4 ⟨t, rfl, ht, hB4⟩
    have VALS4 := Lib.hid (VALS.out.later hB4)
    have B4 := Lib.hid (B3.out.trans (hB4.mono B3.out.size))
    clear hB4
    have HT1 : Hid (∀ w, Calls Tryd.prog 18 #[.string t] w fun e w' => e = .returned (.string ⟨(Lib.trimS t.data.toList [32, 9]).toArray⟩) ∧ Below w.heap.size w w') := Lib.hid (fun w => implTrim_any t w (by omega))
    have HT2 : Hid (∀ w, Calls Tryd.prog 22 #[.string t] w fun e w' => e = .returned (.string ⟨(Lib.trimS t.data.toList [32, 9]).toArray⟩) ∧ w' = w) := Lib.hid (fun w => specTrim_any t w (by omega))
    have HT3 : Hid (∀ w, Calls Tryd.prog 18 #[.string ⟨(Lib.trimS t.data.toList [32, 9]).toArray⟩] w fun e w' => e = .returned (.string ⟨(Lib.trimS t.data.toList [32, 9]).toArray⟩) ∧ Below w.heap.size w w') := Lib.hid (fun w => by
      have h := implTrim_any ⟨(Lib.trimS t.data.toList [32, 9]).toArray⟩ w (by have := trim_le t; omega)
      simp only [trim_twice] at h
      exact h)
    have HT4 : Hid (∀ w, Calls Tryd.prog 18 #[.string (⟨#[32]⟩ ++ t ++ ⟨#[9]⟩)] w fun e w' => e = .returned (.string ⟨(Lib.trimS t.data.toList [32, 9]).toArray⟩) ∧ Below w.heap.size w w') := Lib.hid (fun w => by
      have h := implTrim_any (⟨#[32]⟩ ++ t ++ ⟨#[9]⟩) w (by simp; have : (⟨#[32]⟩ : ByteArray).size = 1 := rfl; have : (⟨#[9]⟩ : ByteArray).size = 1 := rfl; omega)
      have e : (⟨#[32]⟩ ++ t ++ ⟨#[9]⟩ : ByteArray).data.toList = [32] ++ t.data.toList ++ [9] := by simp
      rw [e, trim_out _ _ 32 9 (by decide) (by decide)] at h
      exact h)
    generalize (⟨(Lib.trimS t.data.toList [32, 9]).toArray⟩ : ByteArray) = r at HT1 HT2 HT3 HT4
    go_wp2_with fail
    refine (HT1.out _).mono ?_
    rintro e w5 ⟨rfl, hB5⟩
    have VALS5 := Lib.hid (VALS4.out.later hB5)
    have B5 := Lib.hid (B4.out.trans (hB5.mono B4.out.size))
    clear hB5
    have hbuf : Buf (w5.alloc (.cells #[.int .u8 b.toNat] 5)) w5.heap.size 5 [b] :=
      ⟨_, 0, 0, heap_alloc_new _ _, .inr (Nat.le_refl _), fun j hj => by
        have : j = 0 := by simpa using hj
        subst this; rfl⟩
    have hback := hbuf.back (P := Tryd.prog) 22 9 5 1 1 rfl Tryd.underlying22 Tryd.underlying5 Tryd.underlying9
    clear hbuf
    have hBa := Lib.hid ((Below.refl w5.heap.size w5).alloc (Nat.le_refl _) (.cells #[.int .u8 b.toNat] 5))
    have VALSA := Lib.hid (VALS5.out.later hBa.out)
    go_wp2_with fail
    refine (joined_any v L (one b) _ VALSA.out HNE.out (by omega) (fun y hy => by have := HSM.out y hy; omega) (by show 1 ≤ 1; omega)).mono ?_
    rw [HJ.out]
    rintro e w6 ⟨rfl, hB6⟩
    have VALS6 := Lib.hid (VALSA.out.later hB6)
    have B6a := Lib.hid (B5.out.trans (hBa.out.mono B5.out.size))
    have B6 := Lib.hid (B6a.out.trans (hB6.mono B6a.out.size))
    clear hB6 hback
    go_wp2_with fail
    refine (HSPEC.out _).mono ?_
    rintro e w7 ⟨v2, rfl, hv2, hB7⟩
    have VALS7 := Lib.hid (VALS6.out.later hB7)
    have VALSB := Lib.hid (valsAt_of_row hv2)
    have B7 := Lib.hid (B6.out.trans (hB7.mono B6.out.size))
    clear hv2 hB7
    go_wp2_with fail
    refine (sameTexts_any v v2 L L _ VALS7.out VALSB.out (by omega) (by omega)).mono ?_
    rintro e w8 ⟨he, hq⟩
    obtain rfl : e = .returned (.bool true) := by rw [he]; simp
    clear he
    have B8 := Lib.hid (B7.out.trans (hq.2.mono B7.out.size))
    clear hq
    go_wp2_with fail
    refine (HT2.out _).mono ?_
    rintro e w9 ⟨rfl, rfl⟩
    go_wp2_with fail
    refine (HT3.out _).mono ?_
    rintro e w10 ⟨rfl, hB10⟩
    have B10 := Lib.hid (B8.out.trans (hB10.mono B8.out.size))
    clear hB10
    go_wp2_with fail
    refine (HT4.out _).mono ?_
    rintro e w11 ⟨rfl, hB11⟩
    have B11 := Lib.hid (B10.out.trans (hB11.mono B10.out.size))
    clear hB11
    go_wp2_with fail
    go_ret
    exact ⟨rfl, B11.out⟩
  · go_enter Tryd.func4, Tryd.ntmps4
    go_wp2_with (go_at_call 8; refine (big_yes _ _ _ _ (by omega)).mono ?_; rintro e w1 ⟨rfl, rfl⟩)
    go_ret
    exact ⟨rfl, Below.refl _ _⟩
end Go.Proofs.YtmaoieceonlkoaaDoor
