/-
  The law FnCountLines, for every code.
-/
import Derived.Test.YtfgfbdfijpecfaaDrawLi
import Derived.Test.YtfgfbdfijpecfaaLinesC
import Derived.Test.YtfgfbdfijpecfaaBig
namespace Go.Proofs.Ytfgfbdfijpecfaa
set_option linter.unusedVariables false
open Go.RowKit

def xcrlf : ByteArray := ⟨#[120, 13, 10]⟩
/-- A text that ends in a line end. -/
structure Ends (p : ByteArray) : Prop where
  two : 2 ≤ p.size
  cr : p.data.toList[p.size - 2]? = some 13
  lf : p.data.toList[p.size - 1]? = some 10
theorem ends_x (s : ByteArray) : Ends (s ++ xcrlf) := by
  have hl : s.data.toList.length = s.size := by simp
  have hx : xcrlf.size = 3 := rfl
  have hsz : (s ++ xcrlf).size = s.size + 3 := by rw [ByteArray.size_append, hx]
  have hd : (s ++ xcrlf).data.toList = s.data.toList ++ [120, 13, 10] := by simp [xcrlf]
  refine ⟨by omega, ?_, ?_⟩
  · rw [hsz, hd, List.getElem?_append_right (by omega), hl, show s.size + 3 - 2 - s.size = 1 by omega]; rfl
  · rw [hsz, hd, List.getElem?_append_right (by omega), hl, show s.size + 3 - 1 - s.size = 2 by omega]; rfl

theorem occC_left (p t : ByteArray) (h : Ends p) (k : Nat) (hk : k < p.size) : occC (p ++ t) k = occC p k := by
  have hl : p.data.toList.length = p.size := by simp
  have hd : (p ++ t).data.toList = p.data.toList ++ t.data.toList := by simp
  rw [Bool.eq_iff_iff, occC_iff, occC_iff, hd]
  have h0 : (p.data.toList ++ t.data.toList)[k]? = p.data.toList[k]? := List.getElem?_append_left (by omega)
  rw [h0]
  by_cases h1 : k + 1 < p.size
  · rw [List.getElem?_append_left (by omega)]
  · have e : k = p.size - 1 := by omega
    subst e
    rw [h.lf]
    constructor <;> (rintro ⟨a, _⟩; cases a)
theorem occC_right (p t : ByteArray) (j : Nat) : occC (p ++ t) (p.size + j) = occC t j := by
  have hl : p.data.toList.length = p.size := by simp
  have hd : (p ++ t).data.toList = p.data.toList ++ t.data.toList := by simp
  rw [Bool.eq_iff_iff, occC_iff, occC_iff, hd]
  rw [List.getElem?_append_right (by omega), List.getElem?_append_right (by omega), hl, show p.size + j - p.size = j by omega, show p.size + j + 1 - p.size = j + 1 by omega]
theorem crF_left (p t : ByteArray) (h : Ends p) : ∀ k, k ≤ p.size → crF (p ++ t) k = crF p k := by
  intro k
  induction k with
  | zero => intro _; rfl
  | succ k ih =>
    intro hk
    rw [crF, crF, occC_left p t h k (by omega), ih (by omega)]
theorem crF_end (p : ByteArray) (h : Ends p) : (crF p p.size).2 = p.size := by
  have h2 := h.two
  have hocc : occC p (p.size - 2) = true := (occC_iff _ _).2 ⟨h.cr, by rw [show p.size - 2 + 1 = p.size - 1 by omega]; exact h.lf⟩
  have e : crF p p.size = ((crF p (p.size - 2)).1 + 1, p.size) := by
    have h3 := crF_no (occC_next hocc)
    rw [crF_yes hocc, show p.size - 2 + 1 + 1 = p.size by omega] at h3
    rw [h3]
  rw [e]
theorem crF_right (p t : ByteArray) (h : Ends p) : ∀ j, crF (p ++ t) (p.size + j) = ((crF p p.size).1 + (crF t j).1, p.size + (crF t j).2) := by
  intro j
  induction j with
  | zero =>
    rw [Nat.add_zero, crF_left p t h p.size (Nat.le_refl _)]
    simp only [crF, Nat.add_zero]
    exact Prod.ext rfl (crF_end p h)
  | succ j ih =>
    rw [← Nat.add_assoc, crF, crF, occC_right, ih]
    cases occC t j
    · simp
    · simp; omega
theorem specN_add (p t : ByteArray) (h : Ends p) : specN (p ++ t) = specN p + specN t := by
  have hsz : (p ++ t).size = p.size + t.size := ByteArray.size_append
  unfold specN
  rw [hsz, crF_right p t h t.size, crF_end p h]
  simp only [Nat.lt_irrefl, if_false]
  by_cases h1 : (crF t t.size).2 < t.size
  · rw [if_pos (by omega), if_pos h1]; omega
  · rw [if_neg (by omega), if_neg h1]; omega
theorem specN_range (s : ByteArray) : 0 ≤ specN s ∧ specN s ≤ s.size + 1 := by
  have := crF_le s s.size
  unfold specN
  split <;> omega

/-- A part of the code from a place on. -/
theorem isRow_from {w : World} {a : Option Addr} {len cap : Nat} {zs : List Int} (h : IsRow .u8 w a len cap zs) (k : Nat) (hk : k ≤ len) (hkc : k < cap) :
    ∃ b off, a = some ⟨b, off, none⟩ ∧ IsRow .u8 w (some ⟨b, off + k, none⟩) (len - k) (cap - k) (zs.drop k) := by
  rcases h with ⟨_, _, h, _⟩ | ⟨x, rfl, h1, h2, h3, h4, h5⟩
  · omega
  · obtain ⟨b, off, spot⟩ := x
    have hspot : spot = none := by
      have := h4 0 (by omega)
      cases spot with
      | none => rfl
      | some s => simp [World.cell?, Addr.add] at this; split at this <;> simp at this
    subst hspot
    refine ⟨b, off, rfl, .inr ⟨_, rfl, by omega, by omega, by simp; omega, fun i hi => ?_, fun n hn => h5 n (List.mem_of_mem_drop hn)⟩⟩
    simp only [List.length_drop] at hi
    have := h4 (k + i) (by omega)
    have e1 : (⟨b, off + k, none⟩ : Addr).add i = (⟨b, off, none⟩ : Addr).add (k + i) := by
      have q1 : (⟨b, off + k, none⟩ : Addr).add i = ⟨b, off + k + i, none⟩ := by unfold Addr.add; split <;> simp_all
      have q2 : (⟨b, off, none⟩ : Addr).add (k + i) = ⟨b, off + (k + i), none⟩ := by unfold Addr.add; split <;> simp_all
      rw [q1, q2, Nat.add_assoc]
    rw [e1, this]
    simp [List.getD, List.getElem?_drop]

theorem half_draw (a0 : Option Addr) (len0 cap0 : Nat) (z0 : List Int) (w : World) (w0 : IsRow .u8 w a0 len0 cap0 z0) (hl : len0 ≤ 1048576) (hc0 : ¬ cap0 = len0 / 2) (W : World) (hb : Below w.heap.size w W) :
    Calls Try.prog 24 #[.slice (Option.map (fun x => x.add (len0 / 2)) a0) (len0 - len0 / 2) (cap0 - len0 / 2)] W (DrawsStr 1000 W) := by
  have hlc : len0 ≤ cap0 := by
    rcases w0 with ⟨_, h1, h2, _⟩ | ⟨x, _, h1, _⟩ <;> omega
  obtain ⟨b, off, rfl, hr⟩ := isRow_from w0 (len0 / 2) (by omega) (by omega)
  have e : Option.map (fun x : Addr => x.add (len0 / 2)) (some ⟨b, off, none⟩) = some ⟨b, off + len0 / 2, none⟩ := by
    show some ((⟨b, off, none⟩ : Addr).add (len0 / 2)) = _
    congr 1
    unfold Addr.add; split <;> simp_all
  rw [e]
  exact drawLines_any ⟨_, _, _, _⟩ w W hr (by show len0 - len0 / 2 ≤ _; omega) hb

set_option maxRecDepth 100000 in
set_option maxHeartbeats 1000000 in
theorem lawLines_walk (a0 : Option Addr) (len0 cap0 : Nat) (z0 : List Int) (w : World) (w0 : IsRow .u8 w a0 len0 cap0 z0) (hsh : w.ShapedOpen Try.prog) :
    Calls Try.prog 8 #[.slice a0 len0 cap0] w fun e w' => e = .returned (.bool true) ∧ Below w.heap.size w w' := by
  have HM := Lib.hid (maxLenAt_of_shaped hsh)
  have W0 := Lib.hid w0
  have hlc : len0 ≤ cap0 := by
    rcases w0 with ⟨_, h1, h2, _⟩ | ⟨x, _, h1, _⟩ <;> omega
  clear hsh w0
  by_cases hl : len0 ≤ 1048576
  · by_cases hc0 : cap0 = len0 / 2
    · obtain rfl : len0 = 0 := by omega
      obtain rfl : cap0 = 0 := by omega
      have HD : Hid (∀ W, Below w.heap.size w W → Calls Try.prog 24 #[.slice a0 0 0] W (DrawsStr 1000 W)) := Lib.hid (fun W hb => drawLines_any ⟨a0, 0, 0, z0⟩ w W W0.out hl hb)
      clear hc0
      go_enter Try.func8, Try.ntmps8
      go_wp2_with fail
      refine (big_no _ _ _ _ hl).mono ?_
      rintro e w1 ⟨rfl, rfl⟩
      go_wp2_with fail
      refine (HD.out _ (Below.refl _ _)).mono ?_
      rintro e w2 ⟨s, rfl, hs, hB2⟩
      have B2 := Lib.hid hB2
      clear hB2
      go_wp2_with fail
      refine (HD.out _ B2.out).mono ?_
      rintro e w3 ⟨t, rfl, ht, hB3⟩
      have B3 := Lib.hid (B2.out.trans (hB3.mono B2.out.size))
      have M3 := Lib.hid (HM.out.after B3.out)
      clear hB3
      have hn1 := specN_range s
      have hn2 := specN_range t
      have hn3 := specN_range (s ++ xcrlf)
      have hadd := specN_add (s ++ xcrlf) t (ends_x s)
      have hsx : (s ++ xcrlf).size ≤ 1100 := by rw [ByteArray.size_append]; have : xcrlf.size = 3 := rfl; omega
      have hst : (s ++ xcrlf ++ t).size ≤ 2200 := by rw [ByteArray.size_append]; omega
      have h0 : specN ⟨#[]⟩ = 0 := by decide
      have HST := Lib.hid hst
      have HSX := Lib.hid hsx
      have H0 := Lib.hid h0
      generalize hx1 : specN s = n1 at hn1
      generalize hx2 : specN t = n2 at hn2 hadd
      generalize hx3 : specN (s ++ xcrlf) = n3 at hn3 hadd
      have X1 := Lib.hid hx1
      have X2 := Lib.hid hx2
      have X3 := Lib.hid hx3
      have HADD := Lib.hid hadd
      obtain ⟨ha1, ha2⟩ := hn1
      obtain ⟨hb1, hb2⟩ := hn2
      obtain ⟨hc1, hc2⟩ := hn3
      have ha3 : n1 ≤ 1001 := by omega
      have hb3 : n2 ≤ 1001 := by omega
      have hc3 : n3 ≤ 1101 := by omega
      clear hx1 hx2 hx3 hadd hst hsx h0 ha2 hb2 hc2
      go_wp2_with fail
      refine (implLines_any s _ (by omega) M3.out).mono ?_
      rw [X1.out]
      rintro e w4 ⟨rfl, hB4⟩
      have B4 := Lib.hid (B3.out.trans (hB4.mono B3.out.size))
      have M4 := Lib.hid (HM.out.after B4.out)
      clear hB4
      go_wp2_with fail
      refine (specLines_any s _ (by omega)).mono ?_
      rw [X1.out]
      rintro e w5 ⟨rfl, rfl⟩
      go_wp2_with fail
      refine (implLines_any (s ++ xcrlf ++ t) _ (by have := HST.out; omega) M4.out).mono ?_
      rw [HADD.out]
      rintro e w6 ⟨rfl, hB6⟩
      have B6 := Lib.hid (B4.out.trans (hB6.mono B4.out.size))
      have M6 := Lib.hid (HM.out.after B6.out)
      clear hB6
      go_wp2_with fail
      refine (implLines_any (s ++ xcrlf) _ (by have := HSX.out; omega) M6.out).mono ?_
      rw [X3.out]
      rintro e w7 ⟨rfl, hB7⟩
      have B7 := Lib.hid (B6.out.trans (hB7.mono B6.out.size))
      have M7 := Lib.hid (HM.out.after B7.out)
      clear hB7
      go_wp2_with fail
      refine (implLines_any t _ (by omega) M7.out).mono ?_
      rw [X2.out]
      rintro e w8 ⟨rfl, hB8⟩
      have B8 := Lib.hid (B7.out.trans (hB8.mono B7.out.size))
      have M8 := Lib.hid (HM.out.after B8.out)
      clear hB8
      go_wp2_with fail
      refine (implLines_any ⟨#[]⟩ _ (by decide) M8.out).mono ?_
      rw [H0.out]
      rintro e w9 ⟨rfl, hB9⟩
      have B9 := Lib.hid (B8.out.trans (hB9.mono B8.out.size))
      clear hB9
      go_wp2_with fail
      go_ret
      exact ⟨rfl, B9.out⟩
    · have HD : Hid (∀ W, Below w.heap.size w W → Calls Try.prog 24 #[.slice a0 len0 cap0] W (DrawsStr 1000 W)) := Lib.hid (fun W hb => drawLines_any ⟨a0, len0, cap0, z0⟩ w W W0.out hl hb)
      have HD2 := Lib.hid (half_draw a0 len0 cap0 z0 w W0.out hl hc0)
      go_enter Try.func8, Try.ntmps8
      go_wp2_with fail
      refine (big_no _ _ _ _ hl).mono ?_
      rintro e w1 ⟨rfl, rfl⟩
      go_wp2_with fail
      refine (HD.out _ (Below.refl _ _)).mono ?_
      rintro e w2 ⟨s, rfl, hs, hB2⟩
      have B2 := Lib.hid hB2
      clear hB2
      go_wp2_with fail
      refine (HD2.out _ B2.out).mono ?_
      rintro e w3 ⟨t, rfl, ht, hB3⟩
      clear hc0
      have B3 := Lib.hid (B2.out.trans (hB3.mono B2.out.size))
      have M3 := Lib.hid (HM.out.after B3.out)
      clear hB3
      have hn1 := specN_range s
      have hn2 := specN_range t
      have hn3 := specN_range (s ++ xcrlf)
      have hadd := specN_add (s ++ xcrlf) t (ends_x s)
      have hsx : (s ++ xcrlf).size ≤ 1100 := by rw [ByteArray.size_append]; have : xcrlf.size = 3 := rfl; omega
      have hst : (s ++ xcrlf ++ t).size ≤ 2200 := by rw [ByteArray.size_append]; omega
      have h0 : specN ⟨#[]⟩ = 0 := by decide
      have HST := Lib.hid hst
      have HSX := Lib.hid hsx
      have H0 := Lib.hid h0
      generalize hx1 : specN s = n1 at hn1
      generalize hx2 : specN t = n2 at hn2 hadd
      generalize hx3 : specN (s ++ xcrlf) = n3 at hn3 hadd
      have X1 := Lib.hid hx1
      have X2 := Lib.hid hx2
      have X3 := Lib.hid hx3
      have HADD := Lib.hid hadd
      obtain ⟨ha1, ha2⟩ := hn1
      obtain ⟨hb1, hb2⟩ := hn2
      obtain ⟨hc1, hc2⟩ := hn3
      have ha3 : n1 ≤ 1001 := by omega
      have hb3 : n2 ≤ 1001 := by omega
      have hc3 : n3 ≤ 1101 := by omega
      clear hx1 hx2 hx3 hadd hst hsx h0 ha2 hb2 hc2
      go_wp2_with fail
      refine (implLines_any s _ (by omega) M3.out).mono ?_
      rw [X1.out]
      rintro e w4 ⟨rfl, hB4⟩
      have B4 := Lib.hid (B3.out.trans (hB4.mono B3.out.size))
      have M4 := Lib.hid (HM.out.after B4.out)
      clear hB4
      go_wp2_with fail
      refine (specLines_any s _ (by omega)).mono ?_
      rw [X1.out]
      rintro e w5 ⟨rfl, rfl⟩
      go_wp2_with fail
      refine (implLines_any (s ++ xcrlf ++ t) _ (by have := HST.out; omega) M4.out).mono ?_
      rw [HADD.out]
      rintro e w6 ⟨rfl, hB6⟩
      have B6 := Lib.hid (B4.out.trans (hB6.mono B4.out.size))
      have M6 := Lib.hid (HM.out.after B6.out)
      clear hB6
      go_wp2_with fail
      refine (implLines_any (s ++ xcrlf) _ (by have := HSX.out; omega) M6.out).mono ?_
      rw [X3.out]
      rintro e w7 ⟨rfl, hB7⟩
      have B7 := Lib.hid (B6.out.trans (hB7.mono B6.out.size))
      have M7 := Lib.hid (HM.out.after B7.out)
      clear hB7
      go_wp2_with fail
      refine (implLines_any t _ (by omega) M7.out).mono ?_
      rw [X2.out]
      rintro e w8 ⟨rfl, hB8⟩
      have B8 := Lib.hid (B7.out.trans (hB8.mono B7.out.size))
      have M8 := Lib.hid (HM.out.after B8.out)
      clear hB8
      go_wp2_with fail
      refine (implLines_any ⟨#[]⟩ _ (by decide) M8.out).mono ?_
      rw [H0.out]
      rintro e w9 ⟨rfl, hB9⟩
      have B9 := Lib.hid (B8.out.trans (hB9.mono B8.out.size))
      clear hB9
      go_wp2_with fail
      go_ret
      exact ⟨rfl, B9.out⟩
  · go_enter Try.func8, Try.ntmps8
    go_wp2_with (go_at_call 10; refine (big_yes _ _ _ _ (by omega)).mono ?_; rintro e w1 ⟨rfl, rfl⟩)
    go_ret
    exact ⟨rfl, Below.refl _ _⟩
end Go.Proofs.Ytfgfbdfijpecfaa
