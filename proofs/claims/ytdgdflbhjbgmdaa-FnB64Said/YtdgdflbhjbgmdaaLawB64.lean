/-
  The law FnB64, for every code.
-/
import Derived.Test.YtdgdflbhjbgmdaaBsH
import Derived.Test.YtdgdflbhjbgmdaaBent
import Derived.Test.YtdgdflbhjbgmdaaTextB
import Derived.Test.YtdgdflbhjbgmdaaBig
namespace Go.Proofs.Ytdgdflbhjbgmdaa
set_option linter.unusedVariables false
open Go.RowKit

/-- A text of at most m bytes is drawn. -/
def DrawsUpTo (m : Nat) (w : World) (e : Ending) (w' : World) : Prop := ∃ s : ByteArray, e = .returned (.string s) ∧ s.size ≤ m ∧ Below w.heap.size w w'

set_option maxRecDepth 100000 in
set_option maxHeartbeats 1000000 in
theorem drawPutB64_any (K : Code) (w0 w : World) (hr : IsRow .u8 w0 K.a K.len K.cap K.zs) (hl : K.len ≤ 1048576) (hb : Below w0.heap.size w0 w) :
    Calls Try.prog 7 #[.slice K.a K.len K.cap] w (DrawsUpTo 100 w) := by
  go_enter Try.func7, Try.ntmps7
  go_wp2_with fail
  refine (new_any K w0 w hr hl hb).mono ?_
  rintro e w1 ⟨h1, rfl, hc1, hB1⟩
  have C1 := Lib.hid hc1
  have B1 := Lib.hid hB1
  clear hc1 hB1
  go_wp2_with fail
  refine (below_any C1.out 8 (by decide) (by decide)).mono ?_
  rintro e w3 ⟨x0, i3, h3, rfl, hx0, hx1, hc3, hg3, _⟩
  obtain ⟨x, rfl⟩ := Int.eq_ofNat_of_zero_le hx0
  have C3 := Lib.hid hc3
  have B3 := Lib.hid (below_step B1.out hg3 (Nat.le_refl _))
  clear hc3 hg3
  go_wp2_with fail
  refine (text_any C3.out x (by omega)).mono ?_
  rintro e w4 ⟨s, i4, h4, rfl, hs, hc4, hg4⟩
  have HS := Lib.hid hs
  have B4 := Lib.hid (below_step B3.out hg4 (Nat.le_refl _))
  clear hs hc4 hg4
  go_wp2_with fail
  go_ret
  exact ⟨s, rfl, by have := HS.out; omega, B4.out⟩

set_option maxRecDepth 100000 in
set_option maxHeartbeats 1000000 in
theorem drawGetB64_any (K : Code) (w0 w : World) (hr : IsRow .u8 w0 K.a K.len K.cap K.zs) (hl : K.len ≤ 1048576) (hb : Below w0.heap.size w0 w) :
    Calls Try.prog 9 #[.slice K.a K.len K.cap] w (DrawsUpTo 1000 w) := by
  go_enter Try.func9, Try.ntmps9
  go_wp2_with fail
  refine (new_any K w0 w hr hl hb).mono ?_
  rintro e w1 ⟨h1, rfl, hc1, hB1⟩
  have C1 := Lib.hid hc1
  have B1 := Lib.hid hB1
  clear hc1 hB1
  go_wp2_with fail
  refine (once_any C1.out 4 (by decide) (by decide)).mono ?_
  rintro e w2 ⟨b, i2, h2, rfl, hc2, hg2⟩
  have C2 := Lib.hid hc2
  have B2 : Hid (Below w.heap.size w w2) := Lib.hid (below_step B1.out hg2 (Nat.le_refl _))
  clear hc2 hg2
  cases b
  · go_wp2_with fail
    refine (below_any C2.out 7 (by decide) (by decide)).mono ?_
    rintro e w3 ⟨x0, i3, h3, rfl, hx0, hx1, hc3, hg3, _⟩
    obtain ⟨x, rfl⟩ := Int.eq_ofNat_of_zero_le hx0
    have C3 := Lib.hid hc3
    have B3 := Lib.hid (below_step B2.out hg3 (Nat.le_refl _))
    clear hc3 hg3
    go_wp2_with fail
    refine (text_any C3.out x (by omega)).mono ?_
    rintro e w4 ⟨s, i4, h4, rfl, hs, hc4, hg4⟩
    have hs7 : s.size ≤ 7 := by omega
    have C4 := Lib.hid hc4
    have B4 := Lib.hid (below_step B3.out hg4 (Nat.le_refl _))
    clear hs hc4 hg4
    have hlen : (b64 s.data.toList).length ≤ 20 := by
      rw [b64_len]
      have : s.data.toList.length = s.size := by simp
      omega
    go_wp2_with fail
    refine (specPutB64_any s _ (by omega)).mono ?_
    have hu20 : (⟨(b64 s.data.toList).toArray⟩ : ByteArray).size ≤ 20 := by show (b64 s.data.toList).toArray.size ≤ 20; simpa using hlen
    generalize (⟨(b64 s.data.toList).toArray⟩ : ByteArray) = u at hu20
    rintro e w5 ⟨rfl, hB5⟩
    have C5 := Lib.hid (C4.out.later hB5)
    have B5 := Lib.hid (B4.out.trans (hB5.mono B4.out.size))
    clear hB5
    go_wp2_with fail
    refine (bent_any C5.out u (by omega)).mono ?_
    rintro e w6 ⟨t, i6, h6, rfl, ht, hc6, hg6⟩
    have B6 := Lib.hid (below_step B5.out hg6 (Nat.le_refl _))
    clear hc6 hg6
    go_wp2_with fail
    go_ret
    exact ⟨t, rfl, by omega, B6.out⟩
  · go_wp2_with fail
    refine (pick_lit C2.out 100 (by decide) (by rfl) (by decide) (by decide)).mono ?_
    rintro e w3 ⟨s, i3, h3, rfl, hs, hc3, hg3⟩
    have B3 := Lib.hid (below_step B2.out hg3 (Nat.le_refl _))
    clear hc3 hg3
    go_wp2_with fail
    go_ret
    exact ⟨s, rfl, by omega, B3.out⟩

/-- What is written so is read back. -/
theorem back_any (s : ByteArray) (w : World) (hs : s.size ≤ 100000) (u : ByteArray) (hu : u.data.toList = b64 s.data.toList) :
    Calls Try.prog 10 #[.string u] w fun e w' => e = .returned (.tuple #[.string s, .bool true]) ∧ Below w.heap.size w w' := by
  have hsz : u.size ≤ 1048576 := by
    have h1 : u.size = (b64 s.data.toList).length := by rw [← hu]; simp
    have h2 : s.data.toList.length = s.size := by simp
    rw [h1, b64_len]
    omega
  refine (implGetB64_any u w hsz).mono fun e w' h => ⟨?_, h.2⟩
  rcases h.1 with ⟨o, rfl, h1⟩ | ⟨_, h1⟩
  · rw [hu] at h1
    have e : o = s := ByteArray.ext (Array.ext' (b64_inj h1))
    rw [e]
  · exact absurd hu.symm (h1 _)

set_option maxRecDepth 100000 in
set_option maxHeartbeats 1000000 in
theorem lawB64_walk (a0 : Option Addr) (len0 cap0 : Nat) (z0 : List Int) (w : World) (w0 : IsRow .u8 w a0 len0 cap0 z0) :
    Calls Try.prog 3 #[.slice a0 len0 cap0] w fun e w' => e = .returned (.bool true) ∧ Below w.heap.size w w' := by
  have W0 := Lib.hid w0
  clear w0
  by_cases hl : len0 ≤ 1048576
  · go_enter Try.func3, Try.ntmps3
    go_wp2_with fail
    refine (big_no _ _ _ _ hl).mono ?_
    rintro e w1 ⟨rfl, rfl⟩
    go_wp2_with fail
    refine (drawPutB64_any ⟨a0, len0, cap0, z0⟩ w1 w1 W0.out hl (Below.refl _ _)).mono ?_
    rintro e w2 ⟨s, rfl, hs, hB2⟩
    go_wp2_with fail
    refine (implPutB64_any s _ (by omega)).mono ?_
    have hu : (⟨(b64 s.data.toList).toArray⟩ : ByteArray).data.toList = b64 s.data.toList := rfl
    have hul : (⟨(b64 s.data.toList).toArray⟩ : ByteArray).size = (8 * s.size + 5) / 6 := by
      have h2 : s.data.toList.length = s.size := by simp
      show (b64 s.data.toList).toArray.size = _
      rw [List.size_toArray, b64_len, h2]
    have SPEC : Hid (∀ w, Calls Try.prog 12 #[.string s] w fun e w' => e = .returned (.string ⟨(b64 s.data.toList).toArray⟩) ∧ Below w.heap.size w w') := Lib.hid (fun w => specPutB64_any s w (by omega))
    generalize (⟨(b64 s.data.toList).toArray⟩ : ByteArray) = u at hu hul SPEC
    have HU := Lib.hid hu
    have HUL := Lib.hid hul
    clear hu hul
    rintro e w3 ⟨rfl, hB3⟩
    have B3 := Lib.hid (hB2.trans (hB3.mono hB2.size))
    clear hB3
    go_wp2_with fail
    refine (drawGetB64_any ⟨a0, len0, cap0, z0⟩ w1 _ W0.out hl B3.out).mono ?_
    rintro e w4 ⟨t, rfl, ht, hB4⟩
    have B4 := Lib.hid (B3.out.trans (hB4.mono B3.out.size))
    clear hB4
    have BACK : Hid (∀ w, Calls Try.prog 10 #[.string u] w fun e w' => e = .returned (.tuple #[.string s, .bool true]) ∧ Below w.heap.size w w') := Lib.hid (fun w => back_any s w (by omega) u HU.out)
    have hlen : ((u.size : Int) == (8 * (s.size : Int) + 5) / 6) = true := by rw [HUL.out]; simp
    go_wp2_with fail
    refine (implGetB64_any t _ (by omega)).mono ?_
    intro e5 w5 hr5
    have HR5 := Lib.hid hr5
    have B5 := Lib.hid (B4.out.trans (hr5.2.mono B4.out.size))
    rcases hr5.1 with ⟨o, rfl, ho⟩ | ⟨rfl, _⟩
    · clear hr5
      have hol : o.size ≤ 1000 := by
        have h1 := congrArg List.length ho
        rw [b64_len] at h1
        have h2 : o.data.toList.length = o.size := by simp
        have h3 : t.data.toList.length = t.size := by simp
        omega
      have PO : Hid (∀ w, Calls Try.prog 8 #[.string o] w fun e w' => e = .returned (.string t) ∧ Below w.heap.size w w') := Lib.hid (fun w => by
        have h := implPutB64_any o w (by omega)
        rw [ho] at h
        exact h)
      clear ho
      go_wp2_with fail
      refine (specGet_any t _ (by omega)).mono ?_
      intro e6 w6 hr6
      have B6 := Lib.hid (B5.out.trans (hr6.2.mono B5.out.size))
      obtain rfl := reads_same HR5.out hr6
      clear hr6
      go_wp2_with fail
      refine (SPEC.out _).mono ?_
      rintro e w7 ⟨rfl, hB7⟩
      have B7 := Lib.hid (B6.out.trans (hB7.mono B6.out.size))
      clear hB7
      go_wp2_with fail
      refine (PO.out _).mono ?_
      rintro e w8 ⟨rfl, hB8⟩
      have B8 := Lib.hid (B7.out.trans (hB8.mono B7.out.size))
      clear hB8
      go_wp2_with fail
      refine (BACK.out _).mono ?_
      rintro e w9 ⟨rfl, hB9⟩
      have B9 := Lib.hid (B8.out.trans (hB9.mono B8.out.size))
      clear hB9
      go_wp2_with fail
      go_ret
      exact ⟨rfl, B9.out⟩
    · clear hr5
      go_wp2_with fail
      refine (specGet_any t _ (by omega)).mono ?_
      intro e6 w6 hr6
      have B6 := Lib.hid (B5.out.trans (hr6.2.mono B5.out.size))
      obtain rfl := reads_same HR5.out hr6
      clear hr6
      go_wp2_with fail
      refine (SPEC.out _).mono ?_
      rintro e w7 ⟨rfl, hB7⟩
      have B7 := Lib.hid (B6.out.trans (hB7.mono B6.out.size))
      clear hB7
      go_wp2_with fail
      refine (BACK.out _).mono ?_
      rintro e w9 ⟨rfl, hB9⟩
      have B9 := Lib.hid (B7.out.trans (hB9.mono B7.out.size))
      clear hB9
      go_wp2_with fail
      go_ret
      exact ⟨rfl, B9.out⟩
  · go_enter Try.func3, Try.ntmps3
    go_wp2_with (go_at_call 6; refine (big_yes _ _ _ _ (by omega)).mono ?_; rintro e w1 ⟨rfl, rfl⟩)
    go_ret
    exact ⟨rfl, Below.refl _ _⟩
end Go.Proofs.Ytdgdflbhjbgmdaa
