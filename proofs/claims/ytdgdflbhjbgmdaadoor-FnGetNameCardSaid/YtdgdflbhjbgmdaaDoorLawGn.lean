/-
  The laws FnExactGetName and FnName.
-/
import Derived.Test.YtdgdflbhjbgmdaaDoorGiB
import Derived.Test.YtdgdflbhjbgmdaaDoorDrawNm
import Derived.Test.YtdgdflbhjbgmdaaDoorBig
namespace Go.Proofs.YtdgdflbhjbgmdaaDoor
set_option linter.unusedVariables false
open Go.RowKit

set_option maxHeartbeats 400000 in
theorem exactGetName_walk (s : ByteArray) (w : World) (hs : s.size ≤ maxLen) (hsh : w.ShapedOpen Tryd.prog) (hT : Tabs8 w) :
    Calls Tryd.prog 9 #[.string s] w fun e w' => e = .returned (.bool true) ∧ Below w.heap.size w w' := by
  have hs2 := hs
  have HT := Lib.hid hT
  have HM := Lib.hid (maxLenAt_of_shaped hsh)
  clear hs hT hsh
  unfold maxLen at hs2
  by_cases h1 : s.size ≤ 1048576
  · go_enter Tryd.func9, Tryd.ntmps9
    go_wp2_with fail
    refine (specGetName_any _ _ (by omega)).mono ?_
    intro e1 w1 hr1
    have HR1 := Lib.hid hr1
    have hB1 := hr1.2
    rcases hr1.1 with ⟨o, _, _, rfl⟩ | ⟨_, rfl⟩
    all_goals
      clear hr1
      go_wp2_with fail
      refine (implGetName_any _ _ (by omega) (HT.out.later hB1) (HM.out.after hB1)).mono ?_
      intro e2 w2 hr2
      have hB2 := hr2.2
      obtain rfl := getsName_same HR1.out hr2
      clear hr2
      go_wp2_with fail
      go_ret
      exact ⟨rfl, hB1.trans (hB2.mono hB1.size)⟩
  · go_enter Tryd.func9, Tryd.ntmps9
    go_wp2
    go_ret
    exact ⟨rfl, Below.refl _ _⟩

/-! what is written are plain signs -/
theorem flush_plain (h : List UInt8) : ∀ b ∈ flushL h, 32 ≤ b.toNat ∧ b.toNat ≤ 126 := by
  intro b hb
  unfold flushL at hb
  split at hb
  · cases hb
  · rcases List.mem_append.1 hb with hb | hb
    · rcases List.mem_append.1 hb with hb | hb
      · rw [List.mem_singleton.1 hb]; decide
      · exact (word_low _ b hb).2
    · rw [List.mem_singleton.1 hb]; decide
theorem plainL_plain (r : Nat) (h1 : 32 ≤ r) (h2 : r ≤ 126) : ∀ b ∈ plainL r, 32 ≤ b.toNat ∧ b.toNat ≤ 126 := by
  intro b hb
  unfold plainL at hb
  rcases List.mem_append.1 hb with hb | hb
  · rw [List.mem_singleton.1 hb, nat8 r (by omega)]
    exact ⟨h1, h2⟩
  · split at hb
    · rw [List.mem_singleton.1 hb]; decide
    · cases hb
theorem putNm_plain : ∀ (cs : List Nat) (h : List UInt8), ∀ b ∈ putNm cs h, 32 ≤ b.toNat ∧ b.toNat ≤ 126 := by
  intro cs
  induction cs with
  | nil => intro h; exact flush_plain h
  | cons r rs ih =>
    intro h b hb
    rw [putNm] at hb
    split at hb
    · rename_i hr
      rcases List.mem_append.1 hb with hb | hb
      · rcases List.mem_append.1 hb with hb | hb
        · exact flush_plain h b hb
        · exact plainL_plain r hr.1 hr.2 b hb
      · exact ih [] b hb
    · exact ih _ b hb
theorem putNm_len : ∀ (cs : List Nat) (h : List UInt8), (putNm cs h).length ≤ 16 * cs.length + 2 * h.length + 3 := by
  intro cs
  induction cs with
  | nil => intro h; have := (flushL_len h).1; show (flushL h).length ≤ _; simp only [List.length_nil]; omega
  | cons r rs ih =>
    intro h
    rw [putNm]
    split
    · have h1 := (flushL_len h).1
      have h2 := ih []
      have h3 : (plainL r).length ≤ 2 := by unfold plainL; split <;> simp
      rw [List.length_append, List.length_append, List.length_cons]
      simp only [List.length_nil] at h2
      omega
    · have h1 := ih (h ++ halvesL r)
      have h2 := (halvesL_len r).2
      rw [List.length_append] at h1
      rw [List.length_cons]
      omega
theorem bytesOf_len : ∀ cs : List Nat, AllScalar cs → cs.length ≤ (bytesOf cs).length := by
  intro cs
  induction cs with
  | nil => intro _; exact Nat.le_refl _
  | cons c cs ih =>
    intro h
    have h1 := ih (fun d hd => h d (List.mem_cons_of_mem _ hd))
    have h2 := List.length_pos_iff.2 (put_ne c (h c (List.mem_cons_self ..)))
    rw [bytesOf_cons, List.length_append, List.length_cons]
    omega
theorem name_facts {x l : List UInt8} (h : nameOf x = some l) : (∀ b ∈ l, 32 ≤ b.toNat ∧ b.toNat ≤ 126) ∧ l.length ≤ 16 * x.length + 3 ∧ Lib.validD x = true := by
  obtain ⟨cs, h1, rfl, rfl⟩ := nameOf_some h
  have h2 := putNm_len cs []
  have h3 := bytesOf_len cs h1
  simp only [List.length_nil] at h2
  exact ⟨putNm_plain cs [], by omega, (valid_iff _).2 ⟨cs, h1, rfl⟩⟩
theorem gets_is {l : List UInt8} {w w' : World} {e : Ending} {x : ByteArray} (h : GetsName l w e w') (hn : nameOf x.data.toList = some l) : e = .returned (.tuple #[.string x, .bool true]) := by
  rcases h.1 with ⟨y, k, _, rfl⟩ | ⟨k, rfl⟩
  · have e := read_backS k
    rw [read_backS hn] at e
    have e2 : x = y := ByteArray.ext (Array.ext' (Option.some.inj e))
    rw [e2]
  · exact absurd hn (k _)

set_option maxRecDepth 100000 in
set_option maxHeartbeats 2000000 in
theorem lawName_walk (a0 : Option Addr) (len0 cap0 : Nat) (z0 : List Int) (w : World) (w0 : IsRow .u8 w a0 len0 cap0 z0) (hsh : w.ShapedOpen Tryd.prog) (hT : Tabs8 w) :
    Calls Tryd.prog 3 #[.slice a0 len0 cap0] w fun e w' => e = .returned (.bool true) ∧ Below w.heap.size w w' := by
  have W0 := Lib.hid w0
  have HT := Lib.hid hT
  have HM := Lib.hid (maxLenAt_of_shaped hsh)
  clear w0 hT hsh
  by_cases hl : len0 ≤ 1048576
  · go_enter Tryd.func3, Tryd.ntmps3
    go_wp2_with fail
    refine (big_no _ _ _ _ hl).mono ?_
    rintro e w1 ⟨rfl, rfl⟩
    go_wp2_with fail
    refine (drawPutName_any ⟨a0, len0, cap0, z0⟩ w1 w1 W0.out hl (Below.refl _ _)).mono ?_
    rintro e w2 ⟨s, rfl, hs, hB2⟩
    have B2 := Lib.hid hB2
    have SO := Lib.hid (fun w hT => implSignsOk_any s w (by omega) hT)
    clear hB2
    go_wp2_with fail
    refine (implPutName_any s _ (by omega) (HT.out.later B2.out) (HM.out.after B2.out)).mono ?_
    intro e3 w3 hr3
    have HR3 := Lib.hid hr3
    have B3 := Lib.hid (B2.out.trans (hr3.2.mono B2.out.size))
    rcases hr3.1 with ⟨x, hx, hv, rfl⟩ | ⟨_, hv, rfl⟩
    · have hfac := name_facts hx
      have hxl : x.data.toList.length = x.size := by simp
      have hsl : s.data.toList.length = s.size := by simp
      have hxs : x.size ≤ 10000 := by omega
      have PL : Hid (∀ b ∈ x.data.toList, 32 ≤ b.toNat ∧ b.toNat ≤ 126) := Lib.hid hfac.1
      have HX := Lib.hid hx
      rw [hv] at SO
      clear hr3 hfac hx hv
      go_wp2_with fail
      refine (specPutName_any s _ (by omega)).mono ?_
      intro e4 w4 hr4
      have B4 := Lib.hid (B3.out.trans (hr4.2.mono B3.out.size))
      obtain rfl := puts_same HR3.out hr4
      clear hr4
      go_wp2_with fail
      refine (SO.out _ (HT.out.later B4.out)).mono ?_
      rintro e w5 ⟨rfl, hB5⟩
      have B5 := Lib.hid (B4.out.trans (hB5.mono B4.out.size))
      clear hB5
      go_wp2_with fail
      go_loopw [8] (fun i wr => ∃ (k : Nat), k ≤ x.size ∧ i = .int .i64 (k : Int) ∧ wr = w5) (fun i _ => x.size - (intOf i).toNat)
      case atStart => exact ⟨0, by omega, rfl, rfl⟩
      case round =>
        obtain ⟨k, hk, rfl, rfl⟩ := hrel
        by_cases hlt : k < x.size
        · have hpl := PL.out x[k] (by
            have : x.data.toList[k]? = some x[k] := by rw [List.getElem?_eq_getElem (by omega)]; rfl
            exact List.mem_of_getElem? this)
          have g1 : decide ((x[k].toNat : Int) < 32) = false := by simp; omega
          have g2 : decide ((126 : Int) < (x[k].toNat : Int)) = false := by simp; omega
          clear hpl
          go_wp2_with fail
          go_roundw
          case rel => exact ⟨k + 1, by omega, by go_num, trivial⟩
          case measure => simp [intOf]; omega
        · have GN := Lib.hid (implGetName_any x wr (by omega) (HT.out.later B5.out) (HM.out.after B5.out))
          go_wp2_with fail
          refine GN.out.mono ?_
          intro e6 w6 hr6
          have B6 := Lib.hid (B5.out.trans (hr6.2.mono B5.out.size))
          obtain rfl := gets_is hr6 HX.out
          clear hr6
          go_wp2_with fail
          go_ret
          exact ⟨rfl, B6.out⟩
    · rw [hv] at SO
      clear hr3 hv
      go_wp2_with fail
      refine (specPutName_any s _ (by omega)).mono ?_
      intro e4 w4 hr4
      have B4 := Lib.hid (B3.out.trans (hr4.2.mono B3.out.size))
      obtain rfl := puts_same HR3.out hr4
      clear hr4
      go_wp2_with fail
      refine (SO.out _ (HT.out.later B4.out)).mono ?_
      rintro e w5 ⟨rfl, hB5⟩
      have B5 := Lib.hid (B4.out.trans (hB5.mono B4.out.size))
      clear hB5
      go_wp2_with fail
      go_ret
      exact ⟨rfl, B5.out⟩
  · go_enter Tryd.func3, Tryd.ntmps3
    go_wp2_with (go_at_call 10; refine (big_yes _ _ _ _ (by omega)).mono ?_; rintro e w1 ⟨rfl, rfl⟩)
    go_ret
    exact ⟨rfl, Below.refl _ _⟩
end Go.Proofs.YtdgdflbhjbgmdaaDoor
