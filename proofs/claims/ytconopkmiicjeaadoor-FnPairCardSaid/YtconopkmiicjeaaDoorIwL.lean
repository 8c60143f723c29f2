/-
  Words: the walk of impl's readLiteral.
-/
import Derived.Test.YtconopkmiicjeaaDoorIwD
import Derived.Test.YtconopkmiicjeaaDoorWdL
import Derived.Test.YtconopkmiicjeaaDoorDecC
import Derived.StillTailTactics
import Derived.Test.YtconopkmiicjeaaDoorReg
import Derived.BigRegion
namespace Go.Proofs.YtconopkmiicjeaaDoor
set_option linter.unusedVariables false
open Go.RowKit

/-- The library's variables that reading a number wants, all below block B. -/
structure Decs (B : Nat) (w : World) : Prop where
  tens : Tens w
  errs : Errs w
  lt1 : 2 < B
  lt2 : 3 < B
  lt3 : 1 < B
  size : B ≤ w.heap.size
theorem Decs.below {B : Nat} {w w' : World} (h : Decs B w) (hb : Below B w w') : Decs B w' := by
  obtain ⟨ht, ⟨⟨a, b, c⟩, ⟨d, e, f⟩⟩, l1, l2, l3, hs⟩ := h
  have hsz := hb.size
  refine ⟨?_, ⟨⟨a, b, ?_⟩, ⟨d, e, ?_⟩⟩, l1, l2, l3, by omega⟩
  · exact (var_below (n := "internal/strconv.uint64pow10") (g := 1) (by kernel_rfl) hb l3).trans ht
  · exact (var_below (n := "strconv.ErrSyntax") (g := 2) (by kernel_rfl) hb l1).trans c
  · exact (var_below (n := "strconv.ErrRange") (g := 3) (by kernel_rfl) hb l2).trans f
theorem Decs.grown {B g : Nat} {w w' : World} (h : Decs B w) (hg : w.grownBy w' (some g)) (hB : B ≤ g) : Decs B w' :=
  h.below ((Below.refl _ _).grown hg h.size (fun k e => by cases e; exact hB))
theorem Decs.later {B : Nat} {w w' : World} (h : Decs B w) (hb : Below w.heap.size w w') : Decs B w' := h.below (hb.mono h.size)
theorem Decs.read {B : Nat} {w : World} (h : Decs B w) (s : ByteArray) (hs : s.size ≤ 1048576) :
    Calls Tryd.prog 68 #[.string s] w fun e w' => e = .returned (.int .i64 (decV s.data.toList)) ∧ Below w.heap.size w w' := by
  have := h.size
  have l1 := h.lt1
  have l2 := h.lt2
  have l3 := h.lt3
  exact (implRead_any s w hs h.tens h.errs ⟨by omega, by omega, by omega⟩).mono fun _ _ h => tells_val h

def digB (b : UInt8) : Bool := decide (48 ≤ b.toNat ∧ b.toNat ≤ 57)
set_option maxHeartbeats 400000 in
theorem isDigit_any (b : UInt8) (w : World) :
    Calls Tryd.prog 69 #[.int .u8 b.toNat] w fun e w' => e = .returned (.bool (digB b)) ∧ w = w' := by
  unfold digB
  by_cases h1 : 48 ≤ b.toNat
  · have g1 : decide ((48 : Int) ≤ (b.toNat : Int)) = true := by simp; omega
    by_cases h2 : b.toNat ≤ 57
    · rw [decide_eq_true (And.intro h1 h2)]
      have g2 : decide ((b.toNat : Int) ≤ 57) = true := by simp; omega
      clear h1 h2
      go_enter Tryd.func69, Tryd.ntmps69
      go_wp2_with fail
      go_ret
      exact ⟨rfl, rfl⟩
    · rw [decide_eq_false (fun h => h2 h.2)]
      have g2 : decide ((b.toNat : Int) ≤ 57) = false := by simp; omega
      clear h1 h2
      go_enter Tryd.func69, Tryd.ntmps69
      go_wp2_with fail
      go_ret
      exact ⟨rfl, rfl⟩
  · rw [decide_eq_false (fun h => h1 h.1)]
    have g1 : decide ((48 : Int) ≤ (b.toNat : Int)) = false := by simp; omega
    clear h1
    go_enter Tryd.func69, Tryd.ntmps69
    go_wp2_with fail
    go_ret
    exact ⟨rfl, rfl⟩
theorem fits_isDigit : Fits 69 digB := ⟨isDigit_any, enters_of Tryd.func69 (by kernel_rfl) rfl⟩

def plusA : ByteArray := ⟨#[43]⟩
def closeA : ByteArray := ⟨#[125, 13, 10]⟩
/-- The place behind the plus sign, if one stands there. -/
def behindPlus (s : ByteArray) (k : Nat) : Nat := if Lib.hasPrefix (s.extract k s.size).data.toList plusA.data.toList = true then k + 1 else k
/-- What the program takes for a text that is told by its length, k being the place behind the brace. -/
def litI (s : ByteArray) (k : Nat) : Option (List UInt8 × Nat) :=
  let r1 := runP digB s.data.toList s.size k
  let v := decV (s.extract k r1).data.toList
  let r2 := behindPlus s r1
  if Lib.hasPrefix (s.extract r2 s.size).data.toList closeA.data.toList = false then none else
  if v < 0 then none else
  if s.size < r2 + 3 + v.toNat then none else
  if litOk (s.extract (r2 + 3) (r2 + 3 + v.toNat)).data.toList = false then none else some ((s.extract (r2 + 3) (r2 + 3 + v.toNat)).data.toList, r2 + 3 + v.toNat)

/-- The plus sign is passed, or none is there. -/
theorem skipPlus_any {w : World} {g : Nat} {s : ByteArray} {k : Nat} {v : ByteArray} (h : Rdr w g s k v) :
    Calls Tryd.prog 56 #[.pointer (some ⟨g, 0, none⟩), .string ⟨#[43]⟩] w fun e w' => (∃ b, e = .returned (.bool b)) ∧ Rdr w' g s (behindPlus s k) v ∧ w.grownBy w' (some g) := by
  unfold behindPlus
  cases hm : Lib.hasPrefix (s.extract k s.size).data.toList plusA.data.toList with
  | true => exact (skip_yes h plusA hm).mono fun e w' ⟨h1, h2, h3⟩ => ⟨⟨_, h1⟩, h2, h3⟩
  | false => exact (skip_no h plusA hm).mono fun e w' ⟨h1, h2, h3⟩ => ⟨⟨_, h1⟩, h2, h3⟩

set_option maxRecDepth 100000 in
set_option maxHeartbeats 4000000 in
theorem readLiteral_any {w : World} {g B : Nat} {s : ByteArray} {k : Nat} {v0 : ByteArray} (h : Rdr w g s k v0) (hd : Decs B w) (hBg : B ≤ g) :
    Calls Tryd.prog 58 #[.pointer (some ⟨g, 0, none⟩)] w (ReadsW (litI s k) g s w) := by
  obtain ⟨T, hT⟩ : ∃ T, litI s k = T := ⟨_, rfl⟩
  rw [hT]
  unfold litI at hT
  dsimp only at hT
  have hs := h.few
  have hk := h.le
  have H0 := Lib.hid h
  have RU := Lib.hid (run_any 69 digB fits_isDigit h)
  have hr1 := runP_ge digB s.data.toList s.size k
  have hr2 : runP digB s.data.toList s.size k ≤ s.size := by have := runP_le digB s.data.toList s.size k (by simpa using hk); simpa using this
  generalize runP digB s.data.toList s.size k = r1 at hT RU hr1 hr2
  have RD : Hid (∀ w, Decs B w → Calls Tryd.prog 68 #[.string (s.extract k r1)] w fun e w' => e = .returned (.int .i64 (decV (s.extract k r1).data.toList)) ∧ Below w.heap.size w w') := Lib.hid (fun w hd => hd.read _ (by rw [ByteArray.size_extract]; omega))
  have hv1 := decV_le (s.extract k r1).data.toList
  have hv2 := decV_ge (s.extract k r1).data.toList
  generalize decV (s.extract k r1).data.toList = v at hT RD hv1 hv2
  have HT := Lib.hid hT
  have HD := Lib.hid hd
  clear hT hd h
  go_enter Tryd.func58, Tryd.ntmps58
  go_wp2_with fail
  refine RU.out.mono ?_
  rintro e w1 ⟨rfl, hr, hg⟩
  have D1 := Lib.hid (HD.out.grown hg hBg)
  have R1 := Lib.hid hr
  have G1 := Lib.hid hg
  clear hr hg
  go_wp2_with fail
  refine (RD.out _ D1.out).mono ?_
  rintro e w2 ⟨rfl, hB2⟩
  have R2 := Lib.hid (R1.out.later hB2)
  have G2 : Hid (w.grownBy w2 (some g)) := Lib.hid (grownBy_trans G1.out ⟨hB2.os, hB2.tape, hB2.output, hB2.size, fun k hk _ => hB2.block k hk⟩)
  clear hB2
  go_wp2_with fail
  refine (skipPlus_any R2.out).mono ?_
  rintro e w3 ⟨⟨b3, rfl⟩, hr, hg⟩
  have R3 := Lib.hid hr
  have G3 := Lib.hid (grownBy_trans G2.out hg)
  have hr3 := hr.le
  clear hr hg
  generalize behindPlus s r1 = r2 at R3 hr3 HT
  have R3d : Hid (Rdr w3.drew g s r2 v0) := Lib.hid ⟨R3.out.cell, R3.out.le, R3.out.few⟩
  have G3d : Hid (w.grownBy w3.drew (some g)) := Lib.hid ⟨G3.out.os, G3.out.tape, G3.out.output, G3.out.size, G3.out.block⟩
  cases hm : Lib.hasPrefix (s.extract r2 s.size).data.toList closeA.data.toList with
  | false =>
    have SK := Lib.hid (skip_no R3d.out closeA hm)
    have HN : Hid (T = none) := Lib.hid (by have := HT.out; rw [if_pos hm] at this; exact this.symm)
    clear hm
    go_wp2_with fail
    refine wp_region_noPanic (wp_region_held_drew (S := fun w' => w'.cell? ⟨g, 0, none⟩ = some (.string s)) (by kernel_rfl) R3d.out.cells.1 (fun hHeld => ?_))
    refine take_on (i := 0) (some 13) ?_ rfl rfl (by kernel_rfl) (by kernel_rfl) (by kernel_rfl) (fun _ _ _ h => h) (by rfl) (by assumption) ?_ ?_
    rotate_left 2
    · intro wx hSx
      (try dsimp only at hSx)
      go_simp
      try with_reducible rfl
    rotate_left
    simp only [Act.put, List.setIfInBounds_toArray, List.set_cons_zero, List.set_cons_succ]
    refine take_on (i := 1) (some 14) ?_ rfl rfl (by kernel_rfl) (by kernel_rfl) (by kernel_rfl) (fun _ _ _ h => h) (by rfl) (by assumption) ?_ ?_
    rotate_left 2
    · intro wx hSx
      (try dsimp only at hSx)
      go_simp
      try with_reducible rfl
    rotate_left
    simp only [Act.put, List.setIfInBounds_toArray, List.set_cons_zero, List.set_cons_succ]
    refine take_on (i := 2) (some 15) ?_ rfl rfl (by kernel_rfl) (by kernel_rfl) (by kernel_rfl) (fun _ _ _ h => h) (by rfl) (by assumption) ?_ ?_
    rotate_left 2
    · intro wx hSx
      (try dsimp only at hSx)
      go_simp
      try with_reducible rfl
    rotate_left
    simp only [Act.put, List.setIfInBounds_toArray, List.set_cons_zero, List.set_cons_succ]
    refine wpAnyH_ready (rs := [3]) (by kernel_rfl) (by simp) (AllReadyH.cons rfl (fun K hK => ?_) AllReadyH.nil)
    rw [if_pos (by rfl)]
    go_simp
    refine SK.out.mono ?_
    rintro e w4 ⟨rfl, hr, hg⟩
    have R4 := Lib.hid hr
    have G4 := Lib.hid (grownBy_trans G3d.out hg)
    obtain ⟨c0, c1, c2, f1, f2⟩ := hr.cells
    clear hr hg
    clear hHeld
    refine hK.out _ _ c0 (fun hHeld => ?_)
    clear hK
    refine take_on (i := 4) (some 17) ?_ rfl rfl (by kernel_rfl) (by kernel_rfl) (by kernel_rfl) (fun _ _ _ h => h) (by rfl) (by assumption) ?_ ?_
    rotate_left 2
    · intro wx hSx
      (try dsimp only at hSx)
      go_simp
      try with_reducible rfl
    rotate_left
    simp only [Act.put, List.setIfInBounds_toArray, List.set_cons_zero, List.set_cons_succ]
    refine take_on (i := 5) (some 18) ?_ rfl rfl (by kernel_rfl) (by kernel_rfl) (by kernel_rfl) (fun _ _ _ h => h) (by rfl) (by assumption) ?_ ?_
    rotate_left 2
    · intro wx hSx
      (try dsimp only at hSx)
      go_simp
      try with_reducible rfl
    rotate_left
    simp only [Act.put, List.setIfInBounds_toArray, List.set_cons_zero, List.set_cons_succ]
    refine take_off (i := 6) (some 19) rfl rfl (by kernel_rfl) (by kernel_rfl) (by kernel_rfl) (fun _ _ _ h => h) (by rfl) (by assumption) ?_
    simp only [Act.put, List.setIfInBounds_toArray, List.set_cons_zero, List.set_cons_succ]
    refine take_off (i := 7) (some 20) rfl rfl (by kernel_rfl) (by kernel_rfl) (by kernel_rfl) (fun _ _ _ h => h) (by rfl) (by assumption) ?_
    simp only [Act.put, List.setIfInBounds_toArray, List.set_cons_zero, List.set_cons_succ]
    refine take_on (i := 8) (some 21) ?_ rfl rfl (by kernel_rfl) (by kernel_rfl) (by kernel_rfl) (fun _ _ _ h => h) (by rfl) (by assumption) ?_ ?_
    rotate_left 2
    · intro wx hSx
      (try dsimp only at hSx)
      go_simp
      try with_reducible rfl
    rotate_left
    simp only [Act.put, List.setIfInBounds_toArray, List.set_cons_zero, List.set_cons_succ]
    refine take_on (i := 9) (some 22) ?_ rfl rfl (by kernel_rfl) (by kernel_rfl) (by kernel_rfl) (fun _ _ _ h => h) (by rfl) (by assumption) ?_ ?_
    rotate_left 2
    · intro wx hSx
      (try dsimp only at hSx)
      go_simp
      try with_reducible rfl
    rotate_left
    simp only [Act.put, List.setIfInBounds_toArray, List.set_cons_zero, List.set_cons_succ]
    refine take_off (i := 10) (some 23) rfl rfl (by kernel_rfl) (by kernel_rfl) (by kernel_rfl) (fun _ _ _ h => h) (by rfl) (by assumption) ?_
    simp only [Act.put, List.setIfInBounds_toArray, List.set_cons_zero, List.set_cons_succ]
    refine take_off (i := 11) (some 24) rfl rfl (by kernel_rfl) (by kernel_rfl) (by kernel_rfl) (fun _ _ _ h => h) (by rfl) (by assumption) ?_
    simp only [Act.put, List.setIfInBounds_toArray, List.set_cons_zero, List.set_cons_succ]
    refine take_off (i := 12) (some 25) rfl rfl (by kernel_rfl) (by kernel_rfl) (by kernel_rfl) (fun _ _ _ h => h) (by rfl) (by assumption) ?_
    simp only [Act.put, List.setIfInBounds_toArray, List.set_cons_zero, List.set_cons_succ]
    refine take_off (i := 13) (some 26) rfl rfl (by kernel_rfl) (by kernel_rfl) (by kernel_rfl) (fun _ _ _ h => h) (by rfl) (by assumption) ?_
    simp only [Act.put, List.setIfInBounds_toArray, List.set_cons_zero, List.set_cons_succ]
    refine take_off (i := 14) (some 27) rfl rfl (by kernel_rfl) (by kernel_rfl) (by kernel_rfl) (fun _ _ _ h => h) (by rfl) (by assumption) ?_
    simp only [Act.put, List.setIfInBounds_toArray, List.set_cons_zero, List.set_cons_succ]
    refine take_off (i := 15) (some 28) rfl rfl (by kernel_rfl) (by kernel_rfl) (by kernel_rfl) (fun _ _ _ h => h) (by rfl) (by assumption) ?_
    simp only [Act.put, List.setIfInBounds_toArray, List.set_cons_zero, List.set_cons_succ]
    refine take_off (i := 16) (some 29) rfl rfl (by kernel_rfl) (by kernel_rfl) (by kernel_rfl) (fun _ _ _ h => h) (by rfl) (by assumption) ?_
    simp only [Act.put, List.setIfInBounds_toArray, List.set_cons_zero, List.set_cons_succ]
    refine take_off (i := 17) (some 30) rfl rfl (by kernel_rfl) (by kernel_rfl) (by kernel_rfl) (fun _ _ _ h => h) (by rfl) (by assumption) ?_
    simp only [Act.put, List.setIfInBounds_toArray, List.set_cons_zero, List.set_cons_succ]
    refine take_off (i := 18) (some 31) rfl rfl (by kernel_rfl) (by kernel_rfl) (by kernel_rfl) (fun _ _ _ h => h) (by rfl) (by assumption) ?_
    simp only [Act.put, List.setIfInBounds_toArray, List.set_cons_zero, List.set_cons_succ]
    refine take_off (i := 19) (some 32) rfl rfl (by kernel_rfl) (by kernel_rfl) (by kernel_rfl) (fun _ _ _ h => h) (by rfl) (by assumption) ?_
    simp only [Act.put, List.setIfInBounds_toArray, List.set_cons_zero, List.set_cons_succ]
    refine take_off (i := 20) (some 33) rfl rfl (by kernel_rfl) (by kernel_rfl) (by kernel_rfl) (fun _ _ _ h => h) (by rfl) (by assumption) ?_
    simp only [Act.put, List.setIfInBounds_toArray, List.set_cons_zero, List.set_cons_succ]
    refine take_off (i := 21) (some 34) rfl rfl (by kernel_rfl) (by kernel_rfl) (by kernel_rfl) (fun _ _ _ h => h) (by rfl) (by assumption) ?_
    simp only [Act.put, List.setIfInBounds_toArray, List.set_cons_zero, List.set_cons_succ]
    refine take_off (i := 22) (some 35) rfl rfl (by kernel_rfl) (by kernel_rfl) (by kernel_rfl) (fun _ _ _ h => h) (by rfl) (by assumption) ?_
    simp only [Act.put, List.setIfInBounds_toArray, List.set_cons_zero, List.set_cons_succ]
    refine take_off (i := 23) (some 36) rfl rfl (by kernel_rfl) (by kernel_rfl) (by kernel_rfl) (fun _ _ _ h => h) (by rfl) (by assumption) ?_
    simp only [Act.put, List.setIfInBounds_toArray, List.set_cons_zero, List.set_cons_succ]
    refine take_on (i := 24) (some 37) ?_ rfl rfl (by kernel_rfl) (by kernel_rfl) (by kernel_rfl) (fun _ _ _ h => h) (by rfl) (by assumption) ?_ ?_
    rotate_left 2
    · intro wx hSx
      (try dsimp only at hSx)
      go_simp
      try with_reducible rfl
    rotate_left
    simp only [Act.put, List.setIfInBounds_toArray, List.set_cons_zero, List.set_cons_succ]
    refine wpAnyH_done (by kernel_rfl) ?_ _
    refine NoPanic.normal ?_
    clear hHeld
    go_wp2_with fail
    go_ret
    exact ⟨.inr ⟨HN.out, rfl⟩, G4.out⟩
  | true =>
    have SK := Lib.hid (skip_yes R3d.out closeA hm)
    have hz3 : closeA.size = 3 := rfl
    rw [hz3] at SK
    have hroom := prefix_room hr3 hm
    rw [hz3] at hroom
    clear hz3
    have hT := HT.out
    rw [if_neg (by rw [hm]; simp)] at hT
    clear hm
    by_cases hv0 : v < 0
    · rw [if_pos hv0] at hT
      have HN := Lib.hid hT
      have g1 : decide (v < 0) = true := by simpa using hv0
      clear hT hv0
      go_wp2_with fail
      refine wp_region_noPanic (wp_region_held_drew (S := fun w' => w'.cell? ⟨g, 0, none⟩ = some (.string s)) (by kernel_rfl) R3d.out.cells.1 (fun hHeld => ?_))
      refine take_on (i := 0) (some 13) ?_ rfl rfl (by kernel_rfl) (by kernel_rfl) (by kernel_rfl) (fun _ _ _ h => h) (by rfl) (by assumption) ?_ ?_
      rotate_left 2
      · intro wx hSx
        (try dsimp only at hSx)
        go_simp
        try with_reducible rfl
      rotate_left
      simp only [Act.put, List.setIfInBounds_toArray, List.set_cons_zero, List.set_cons_succ]
      refine take_on (i := 1) (some 14) ?_ rfl rfl (by kernel_rfl) (by kernel_rfl) (by kernel_rfl) (fun _ _ _ h => h) (by rfl) (by assumption) ?_ ?_
      rotate_left 2
      · intro wx hSx
        (try dsimp only at hSx)
        go_simp
        try with_reducible rfl
      rotate_left
      simp only [Act.put, List.setIfInBounds_toArray, List.set_cons_zero, List.set_cons_succ]
      refine take_on (i := 2) (some 15) ?_ rfl rfl (by kernel_rfl) (by kernel_rfl) (by kernel_rfl) (fun _ _ _ h => h) (by rfl) (by assumption) ?_ ?_
      rotate_left 2
      · intro wx hSx
        (try dsimp only at hSx)
        go_simp
        try with_reducible rfl
      rotate_left
      simp only [Act.put, List.setIfInBounds_toArray, List.set_cons_zero, List.set_cons_succ]
      refine wpAnyH_ready (rs := [3]) (by kernel_rfl) (by simp) (AllReadyH.cons rfl (fun K hK => ?_) AllReadyH.nil)
      rw [if_pos (by rfl)]
      go_simp
      refine SK.out.mono ?_
      rintro e w4 ⟨rfl, hr, hg⟩
      have R4 := Lib.hid hr
      have G4 := Lib.hid (grownBy_trans G3d.out hg)
      obtain ⟨c0, c1, c2, f1, f2⟩ := hr.cells
      clear hr hg
      clear hHeld
      refine hK.out _ _ c0 (fun hHeld => ?_)
      clear hK
      refine take_on (i := 4) (some 17) ?_ rfl rfl (by kernel_rfl) (by kernel_rfl) (by kernel_rfl) (fun _ _ _ h => h) (by rfl) (by assumption) ?_ ?_
      rotate_left 2
      · intro wx hSx
        (try dsimp only at hSx)
        go_simp
        try with_reducible rfl
      rotate_left
      simp only [Act.put, List.setIfInBounds_toArray, List.set_cons_zero, List.set_cons_succ]
      refine take_on (i := 5) (some 18) ?_ rfl rfl (by kernel_rfl) (by kernel_rfl) (by kernel_rfl) (fun _ _ _ h => h) (by rfl) (by assumption) ?_ ?_
      rotate_left 2
      · intro wx hSx
        (try dsimp only at hSx)
        go_simp
        try with_reducible rfl
      rotate_left
      simp only [Act.put, List.setIfInBounds_toArray, List.set_cons_zero, List.set_cons_succ]
      refine take_on (i := 6) (some 19) ?_ rfl rfl (by kernel_rfl) (by kernel_rfl) (by kernel_rfl) (fun _ _ _ h => h) (by rfl) (by assumption) ?_ ?_
      rotate_left 2
      · intro wx hSx
        (try dsimp only at hSx)
        go_simp
        try with_reducible rfl
      rotate_left
      simp only [Act.put, List.setIfInBounds_toArray, List.set_cons_zero, List.set_cons_succ]
      refine take_on (i := 7) (some 20) ?_ rfl rfl (by kernel_rfl) (by kernel_rfl) (by kernel_rfl) (fun _ _ _ h => h) (by rfl) (by assumption) ?_ ?_
      rotate_left 2
      · intro wx hSx
        (try dsimp only at hSx)
        go_simp
        try with_reducible rfl
      rotate_left
      simp only [Act.put, List.setIfInBounds_toArray, List.set_cons_zero, List.set_cons_succ]
      refine take_on (i := 8) (some 21) ?_ rfl rfl (by kernel_rfl) (by kernel_rfl) (by kernel_rfl) (fun _ _ _ h => h) (by rfl) (by assumption) ?_ ?_
      rotate_left 2
      · intro wx hSx
        (try dsimp only at hSx)
        go_simp
        try with_reducible rfl
      rotate_left
      simp only [Act.put, List.setIfInBounds_toArray, List.set_cons_zero, List.set_cons_succ]
      refine take_on (i := 9) (some 22) ?_ rfl rfl (by kernel_rfl) (by kernel_rfl) (by kernel_rfl) (fun _ _ _ h => h) (by rfl) (by assumption) ?_ ?_
      rotate_left 2
      · intro wx hSx
        (try dsimp only at hSx)
        go_simp
        try with_reducible rfl
      rotate_left
      simp only [Act.put, List.setIfInBounds_toArray, List.set_cons_zero, List.set_cons_succ]
      refine take_off (i := 10) (some 23) rfl rfl (by kernel_rfl) (by kernel_rfl) (by kernel_rfl) (fun _ _ _ h => h) (by rfl) (by assumption) ?_
      simp only [Act.put, List.setIfInBounds_toArray, List.set_cons_zero, List.set_cons_succ]
      refine take_off (i := 11) (some 24) rfl rfl (by kernel_rfl) (by kernel_rfl) (by kernel_rfl) (fun _ _ _ h => h) (by rfl) (by assumption) ?_
      simp only [Act.put, List.setIfInBounds_toArray, List.set_cons_zero, List.set_cons_succ]
      refine take_off (i := 12) (some 25) rfl rfl (by kernel_rfl) (by kernel_rfl) (by kernel_rfl) (fun _ _ _ h => h) (by rfl) (by assumption) ?_
      simp only [Act.put, List.setIfInBounds_toArray, List.set_cons_zero, List.set_cons_succ]
      refine take_off (i := 13) (some 26) rfl rfl (by kernel_rfl) (by kernel_rfl) (by kernel_rfl) (fun _ _ _ h => h) (by rfl) (by assumption) ?_
      simp only [Act.put, List.setIfInBounds_toArray, List.set_cons_zero, List.set_cons_succ]
      refine take_off (i := 14) (some 27) rfl rfl (by kernel_rfl) (by kernel_rfl) (by kernel_rfl) (fun _ _ _ h => h) (by rfl) (by assumption) ?_
      simp only [Act.put, List.setIfInBounds_toArray, List.set_cons_zero, List.set_cons_succ]
      refine take_off (i := 15) (some 28) rfl rfl (by kernel_rfl) (by kernel_rfl) (by kernel_rfl) (fun _ _ _ h => h) (by rfl) (by assumption) ?_
      simp only [Act.put, List.setIfInBounds_toArray, List.set_cons_zero, List.set_cons_succ]
      refine take_off (i := 16) (some 29) rfl rfl (by kernel_rfl) (by kernel_rfl) (by kernel_rfl) (fun _ _ _ h => h) (by rfl) (by assumption) ?_
      simp only [Act.put, List.setIfInBounds_toArray, List.set_cons_zero, List.set_cons_succ]
      refine take_off (i := 17) (some 30) rfl rfl (by kernel_rfl) (by kernel_rfl) (by kernel_rfl) (fun _ _ _ h => h) (by rfl) (by assumption) ?_
      simp only [Act.put, List.setIfInBounds_toArray, List.set_cons_zero, List.set_cons_succ]
      refine take_off (i := 18) (some 31) rfl rfl (by kernel_rfl) (by kernel_rfl) (by kernel_rfl) (fun _ _ _ h => h) (by rfl) (by assumption) ?_
      simp only [Act.put, List.setIfInBounds_toArray, List.set_cons_zero, List.set_cons_succ]
      refine take_off (i := 19) (some 32) rfl rfl (by kernel_rfl) (by kernel_rfl) (by kernel_rfl) (fun _ _ _ h => h) (by rfl) (by assumption) ?_
      simp only [Act.put, List.setIfInBounds_toArray, List.set_cons_zero, List.set_cons_succ]
      refine take_off (i := 20) (some 33) rfl rfl (by kernel_rfl) (by kernel_rfl) (by kernel_rfl) (fun _ _ _ h => h) (by rfl) (by assumption) ?_
      simp only [Act.put, List.setIfInBounds_toArray, List.set_cons_zero, List.set_cons_succ]
      refine take_off (i := 21) (some 34) rfl rfl (by kernel_rfl) (by kernel_rfl) (by kernel_rfl) (fun _ _ _ h => h) (by rfl) (by assumption) ?_
      simp only [Act.put, List.setIfInBounds_toArray, List.set_cons_zero, List.set_cons_succ]
      refine take_off (i := 22) (some 35) rfl rfl (by kernel_rfl) (by kernel_rfl) (by kernel_rfl) (fun _ _ _ h => h) (by rfl) (by assumption) ?_
      simp only [Act.put, List.setIfInBounds_toArray, List.set_cons_zero, List.set_cons_succ]
      refine take_off (i := 23) (some 36) rfl rfl (by kernel_rfl) (by kernel_rfl) (by kernel_rfl) (fun _ _ _ h => h) (by rfl) (by assumption) ?_
      simp only [Act.put, List.setIfInBounds_toArray, List.set_cons_zero, List.set_cons_succ]
      refine take_on (i := 24) (some 37) ?_ rfl rfl (by kernel_rfl) (by kernel_rfl) (by kernel_rfl) (fun _ _ _ h => h) (by rfl) (by assumption) ?_ ?_
      rotate_left 2
      · intro wx hSx
        (try dsimp only at hSx)
        go_simp
        try with_reducible rfl
      rotate_left
      simp only [Act.put, List.setIfInBounds_toArray, List.set_cons_zero, List.set_cons_succ]
      refine wpAnyH_done (by kernel_rfl) ?_ _
      refine NoPanic.normal ?_
      clear hHeld
      go_wp2_with fail
      go_ret
      exact ⟨.inr ⟨HN.out.symm, rfl⟩, G4.out⟩
    · rw [if_neg hv0] at hT
      have g1 : decide (v < 0) = false := by simpa using hv0
      obtain ⟨m, rfl⟩ : ∃ m : Nat, v = m := ⟨v.toNat, by omega⟩
      rw [Int.toNat_natCast] at hT
      have i1 : IntKind.i64.wrap ((s.size : Int) - ((r2 : Int) + 3)) = (s.size : Int) - ((r2 : Int) + 3) := by rw [IntKind.wrap_i64]; omega
      by_cases hb : s.size < r2 + 3 + m
      · rw [if_pos hb] at hT
        have HN := Lib.hid hT
        have g2 : decide (IntKind.i64.wrap ((s.size : Int) - ((r2 : Int) + 3)) < (m : Int)) = true := by rw [i1]; simp; omega
        clear hT hv0 i1
        go_wp2_with fail
        refine wp_region_noPanic (wp_region_held_drew (S := fun w' => w'.cell? ⟨g, 0, none⟩ = some (.string s)) (by kernel_rfl) R3d.out.cells.1 (fun hHeld => ?_))
        refine take_on (i := 0) (some 13) ?_ rfl rfl (by kernel_rfl) (by kernel_rfl) (by kernel_rfl) (fun _ _ _ h => h) (by rfl) (by assumption) ?_ ?_
        rotate_left 2
        · intro wx hSx
          (try dsimp only at hSx)
          go_simp
          try with_reducible rfl
        rotate_left
        simp only [Act.put, List.setIfInBounds_toArray, List.set_cons_zero, List.set_cons_succ]
        refine take_on (i := 1) (some 14) ?_ rfl rfl (by kernel_rfl) (by kernel_rfl) (by kernel_rfl) (fun _ _ _ h => h) (by rfl) (by assumption) ?_ ?_
        rotate_left 2
        · intro wx hSx
          (try dsimp only at hSx)
          go_simp
          try with_reducible rfl
        rotate_left
        simp only [Act.put, List.setIfInBounds_toArray, List.set_cons_zero, List.set_cons_succ]
        refine take_on (i := 2) (some 15) ?_ rfl rfl (by kernel_rfl) (by kernel_rfl) (by kernel_rfl) (fun _ _ _ h => h) (by rfl) (by assumption) ?_ ?_
        rotate_left 2
        · intro wx hSx
          (try dsimp only at hSx)
          go_simp
          try with_reducible rfl
        rotate_left
        simp only [Act.put, List.setIfInBounds_toArray, List.set_cons_zero, List.set_cons_succ]
        refine wpAnyH_ready (rs := [3]) (by kernel_rfl) (by simp) (AllReadyH.cons rfl (fun K hK => ?_) AllReadyH.nil)
        rw [if_pos (by rfl)]
        go_simp
        refine SK.out.mono ?_
        rintro e w4 ⟨rfl, hr, hg⟩
        have R4 := Lib.hid hr
        have G4 := Lib.hid (grownBy_trans G3d.out hg)
        obtain ⟨c0, c1, c2, f1, f2⟩ := hr.cells
        clear hr hg
        clear hHeld
        refine hK.out _ _ c0 (fun hHeld => ?_)
        clear hK
        refine take_on (i := 4) (some 17) ?_ rfl rfl (by kernel_rfl) (by kernel_rfl) (by kernel_rfl) (fun _ _ _ h => h) (by rfl) (by assumption) ?_ ?_
        rotate_left 2
        · intro wx hSx
          (try dsimp only at hSx)
          go_simp
          try with_reducible rfl
        rotate_left
        simp only [Act.put, List.setIfInBounds_toArray, List.set_cons_zero, List.set_cons_succ]
        refine take_on (i := 5) (some 18) ?_ rfl rfl (by kernel_rfl) (by kernel_rfl) (by kernel_rfl) (fun _ _ _ h => h) (by rfl) (by assumption) ?_ ?_
        rotate_left 2
        · intro wx hSx
          (try dsimp only at hSx)
          go_simp
          try with_reducible rfl
        rotate_left
        simp only [Act.put, List.setIfInBounds_toArray, List.set_cons_zero, List.set_cons_succ]
        refine take_on (i := 6) (some 19) ?_ rfl rfl (by kernel_rfl) (by kernel_rfl) (by kernel_rfl) (fun _ _ _ h => h) (by rfl) (by assumption) ?_ ?_
        rotate_left 2
        · intro wx hSx
          (try dsimp only at hSx)
          go_simp
          try with_reducible rfl
        rotate_left
        simp only [Act.put, List.setIfInBounds_toArray, List.set_cons_zero, List.set_cons_succ]
        refine take_on (i := 7) (some 20) ?_ rfl rfl (by kernel_rfl) (by kernel_rfl) (by kernel_rfl) (fun _ _ _ h => h) (by rfl) (by assumption) ?_ ?_
        rotate_left 2
        · intro wx hSx
          (try dsimp only at hSx)
          go_simp
          try with_reducible rfl
        rotate_left
        simp only [Act.put, List.setIfInBounds_toArray, List.set_cons_zero, List.set_cons_succ]
        refine take_on (i := 8) (some 21) ?_ rfl rfl (by kernel_rfl) (by kernel_rfl) (by kernel_rfl) (fun _ _ _ h => h) (by rfl) (by assumption) ?_ ?_
        rotate_left 2
        · intro wx hSx
          (try dsimp only at hSx)
          go_simp
          try with_reducible rfl
        rotate_left
        simp only [Act.put, List.setIfInBounds_toArray, List.set_cons_zero, List.set_cons_succ]
        refine take_on (i := 9) (some 22) ?_ rfl rfl (by kernel_rfl) (by kernel_rfl) (by kernel_rfl) (fun _ _ _ h => h) (by rfl) (by assumption) ?_ ?_
        rotate_left 2
        · intro wx hSx
          (try dsimp only at hSx)
          go_simp
          try with_reducible rfl
        rotate_left
        simp only [Act.put, List.setIfInBounds_toArray, List.set_cons_zero, List.set_cons_succ]
        refine take_on (i := 10) (some 23) ?_ rfl rfl (by kernel_rfl) (by kernel_rfl) (by kernel_rfl) (fun _ _ _ h => h) (by rfl) (by assumption) ?_ ?_
        rotate_left 2
        · intro wx hSx
          (try dsimp only at hSx)
          go_simp
          try with_reducible rfl
        rotate_left
        simp only [Act.put, List.setIfInBounds_toArray, List.set_cons_zero, List.set_cons_succ]
        refine take_on (i := 11) (some 24) ?_ rfl rfl (by kernel_rfl) (by kernel_rfl) (by kernel_rfl) (fun _ _ _ h => h) (by rfl) (by assumption) ?_ ?_
        rotate_left 2
        · intro wx hSx
          (try dsimp only at hSx)
          go_simp
          try with_reducible rfl
        rotate_left
        simp only [Act.put, List.setIfInBounds_toArray, List.set_cons_zero, List.set_cons_succ]
        refine take_on (i := 12) (some 25) ?_ rfl rfl (by kernel_rfl) (by kernel_rfl) (by kernel_rfl) (fun _ _ _ h => h) (by rfl) (by assumption) ?_ ?_
        rotate_left 2
        · intro wx hSx
          (try dsimp only at hSx)
          go_simp
          try with_reducible rfl
        rotate_left
        simp only [Act.put, List.setIfInBounds_toArray, List.set_cons_zero, List.set_cons_succ]
        refine take_on (i := 13) (some 26) ?_ rfl rfl (by kernel_rfl) (by kernel_rfl) (by kernel_rfl) (fun _ _ _ h => h) (by rfl) (by assumption) ?_ ?_
        rotate_left 2
        · intro wx hSx
          (try dsimp only at hSx)
          go_simp
          try with_reducible rfl
        rotate_left
        simp only [Act.put, List.setIfInBounds_toArray, List.set_cons_zero, List.set_cons_succ]
        refine take_on (i := 14) (some 27) ?_ rfl rfl (by kernel_rfl) (by kernel_rfl) (by kernel_rfl) (fun _ _ _ h => h) (by rfl) (by assumption) ?_ ?_
        rotate_left 2
        · intro wx hSx
          (try dsimp only at hSx)
          go_simp
          try with_reducible rfl
        rotate_left
        simp only [Act.put, List.setIfInBounds_toArray, List.set_cons_zero, List.set_cons_succ]
        refine take_on (i := 15) (some 28) ?_ rfl rfl (by kernel_rfl) (by kernel_rfl) (by kernel_rfl) (fun _ _ _ h => h) (by rfl) (by assumption) ?_ ?_
        rotate_left 2
        · intro wx hSx
          (try dsimp only at hSx)
          go_simp
          try with_reducible rfl
        rotate_left
        simp only [Act.put, List.setIfInBounds_toArray, List.set_cons_zero, List.set_cons_succ]
        refine take_on (i := 16) (some 29) ?_ rfl rfl (by kernel_rfl) (by kernel_rfl) (by kernel_rfl) (fun _ _ _ h => h) (by rfl) (by assumption) ?_ ?_
        rotate_left 2
        · intro wx hSx
          (try dsimp only at hSx)
          go_simp
          try with_reducible rfl
        rotate_left
        simp only [Act.put, List.setIfInBounds_toArray, List.set_cons_zero, List.set_cons_succ]
        refine take_on (i := 17) (some 30) ?_ rfl rfl (by kernel_rfl) (by kernel_rfl) (by kernel_rfl) (fun _ _ _ h => h) (by rfl) (by assumption) ?_ ?_
        rotate_left 2
        · intro wx hSx
          (try dsimp only at hSx)
          go_simp
          try with_reducible rfl
        rotate_left
        simp only [Act.put, List.setIfInBounds_toArray, List.set_cons_zero, List.set_cons_succ]
        refine take_on (i := 18) (some 31) ?_ rfl rfl (by kernel_rfl) (by kernel_rfl) (by kernel_rfl) (fun _ _ _ h => h) (by rfl) (by assumption) ?_ ?_
        rotate_left 2
        · intro wx hSx
          (try dsimp only at hSx)
          go_simp
          try with_reducible rfl
        rotate_left
        simp only [Act.put, List.setIfInBounds_toArray, List.set_cons_zero, List.set_cons_succ]
        refine take_on (i := 19) (some 32) ?_ rfl rfl (by kernel_rfl) (by kernel_rfl) (by kernel_rfl) (fun _ _ _ h => h) (by rfl) (by assumption) ?_ ?_
        rotate_left 2
        · intro wx hSx
          (try dsimp only at hSx)
          go_simp
          try with_reducible rfl
        rotate_left
        simp only [Act.put, List.setIfInBounds_toArray, List.set_cons_zero, List.set_cons_succ]
        refine take_on (i := 20) (some 33) ?_ rfl rfl (by kernel_rfl) (by kernel_rfl) (by kernel_rfl) (fun _ _ _ h => h) (by rfl) (by assumption) ?_ ?_
        rotate_left 2
        · intro wx hSx
          (try dsimp only at hSx)
          go_simp
          try with_reducible rfl
        rotate_left
        simp only [Act.put, List.setIfInBounds_toArray, List.set_cons_zero, List.set_cons_succ]
        refine wpAnyH_ready (rs := [21]) (by kernel_rfl) (by simp) (AllReadyH.cons rfl (fun K hK => ?_) AllReadyH.nil)
        rw [if_pos (by rfl)]
        go_simp
        refine hK.out _ _ c0 (fun hHeld => ?_)
        clear hK
        refine take_on (i := 22) (some 35) ?_ rfl rfl (by kernel_rfl) (by kernel_rfl) (by kernel_rfl) (fun _ _ _ h => h) (by rfl) (by assumption) ?_ ?_
        rotate_left 2
        · intro wx hSx
          (try dsimp only at hSx)
          go_simp
          try with_reducible rfl
        rotate_left
        simp only [Act.put, List.setIfInBounds_toArray, List.set_cons_zero, List.set_cons_succ]
        refine take_on (i := 23) (some 36) ?_ rfl rfl (by kernel_rfl) (by kernel_rfl) (by kernel_rfl) (fun _ _ _ h => h) (by rfl) (by assumption) ?_ ?_
        rotate_left 2
        · intro wx hSx
          (try dsimp only at hSx)
          go_simp
          try with_reducible rfl
        rotate_left
        simp only [Act.put, List.setIfInBounds_toArray, List.set_cons_zero, List.set_cons_succ]
        refine take_on (i := 24) (some 37) ?_ rfl rfl (by kernel_rfl) (by kernel_rfl) (by kernel_rfl) (fun _ _ _ h => h) (by rfl) (by assumption) ?_ ?_
        rotate_left 2
        · intro wx hSx
          (try dsimp only at hSx)
          go_simp
          try with_reducible rfl
        rotate_left
        simp only [Act.put, List.setIfInBounds_toArray, List.set_cons_zero, List.set_cons_succ]
        refine wpAnyH_done (by kernel_rfl) ?_ _
        refine NoPanic.normal ?_
        clear hHeld
        go_wp2_with fail
        go_ret
        exact ⟨.inr ⟨HN.out.symm, rfl⟩, G4.out⟩
      · rw [if_neg hb] at hT
        have HTL := Lib.hid hT
        have g2 : decide (IntKind.i64.wrap ((s.size : Int) - ((r2 : Int) + 3)) < (m : Int)) = false := by rw [i1]; simp; omega
        have LI := Lib.hid (fun w => inLiteral_any (s.extract (r2 + 3) (r2 + 3 + m)) w)
        have hb2 : r2 + 3 + m ≤ s.size := by omega
        have j1 : IntKind.i64.wrap ((r2 : Int) + 3 + (m : Int)) = (r2 : Int) + 3 + (m : Int) := by rw [IntKind.wrap_i64]; omega
        have j2 : (0 : Int) ≤ (r2 : Int) + 3 := by omega
        have j3 : (r2 : Int) + 3 ≤ (r2 : Int) + 3 + (m : Int) := by omega
        have j4 : (r2 : Int) + 3 + (m : Int) ≤ (s.size : Int) := by omega
        have j5 : ((r2 : Int) + 3).toNat = r2 + 3 := by omega
        have j6 : ((r2 : Int) + 3 + (m : Int)).toNat = r2 + 3 + m := by omega
        clear hT hv0 hb i1
        go_wp2_with fail
        refine wp_region_noPanic (wp_region_held_drew (S := fun w' => w'.cell? ⟨g, 0, none⟩ = some (.string s)) (by kernel_rfl) R3d.out.cells.1 (fun hHeld => ?_))
        refine take_on (i := 0) (some 13) ?_ rfl rfl (by kernel_rfl) (by kernel_rfl) (by kernel_rfl) (fun _ _ _ h => h) (by rfl) (by assumption) ?_ ?_
        rotate_left 2
        · intro wx hSx
          (try dsimp only at hSx)
          go_simp
          try with_reducible rfl
        rotate_left
        simp only [Act.put, List.setIfInBounds_toArray, List.set_cons_zero, List.set_cons_succ]
        refine take_on (i := 1) (some 14) ?_ rfl rfl (by kernel_rfl) (by kernel_rfl) (by kernel_rfl) (fun _ _ _ h => h) (by rfl) (by assumption) ?_ ?_
        rotate_left 2
        · intro wx hSx
          (try dsimp only at hSx)
          go_simp
          try with_reducible rfl
        rotate_left
        simp only [Act.put, List.setIfInBounds_toArray, List.set_cons_zero, List.set_cons_succ]
        refine take_on (i := 2) (some 15) ?_ rfl rfl (by kernel_rfl) (by kernel_rfl) (by kernel_rfl) (fun _ _ _ h => h) (by rfl) (by assumption) ?_ ?_
        rotate_left 2
        · intro wx hSx
          (try dsimp only at hSx)
          go_simp
          try with_reducible rfl
        rotate_left
        simp only [Act.put, List.setIfInBounds_toArray, List.set_cons_zero, List.set_cons_succ]
        refine wpAnyH_ready (rs := [3]) (by kernel_rfl) (by simp) (AllReadyH.cons rfl (fun K hK => ?_) AllReadyH.nil)
        rw [if_pos (by rfl)]
        go_simp
        refine SK.out.mono ?_
        rintro e w4 ⟨rfl, hr, hg⟩
        have R4 := Lib.hid hr
        have G4 := Lib.hid (grownBy_trans G3d.out hg)
        obtain ⟨c0, c1, c2, f1, f2⟩ := hr.cells
        clear hr hg
        clear hHeld
        refine hK.out _ _ c0 (fun hHeld => ?_)
        clear hK
        refine take_on (i := 4) (some 17) ?_ rfl rfl (by kernel_rfl) (by kernel_rfl) (by kernel_rfl) (fun _ _ _ h => h) (by rfl) (by assumption) ?_ ?_
        rotate_left 2
        · intro wx hSx
          (try dsimp only at hSx)
          go_simp
          try with_reducible rfl
        rotate_left
        simp only [Act.put, List.setIfInBounds_toArray, List.set_cons_zero, List.set_cons_succ]
        refine take_on (i := 5) (some 18) ?_ rfl rfl (by kernel_rfl) (by kernel_rfl) (by kernel_rfl) (fun _ _ _ h => h) (by rfl) (by assumption) ?_ ?_
        rotate_left 2
        · intro wx hSx
          (try dsimp only at hSx)
          go_simp
          try with_reducible rfl
        rotate_left
        simp only [Act.put, List.setIfInBounds_toArray, List.set_cons_zero, List.set_cons_succ]
        refine take_on (i := 6) (some 19) ?_ rfl rfl (by kernel_rfl) (by kernel_rfl) (by kernel_rfl) (fun _ _ _ h => h) (by rfl) (by assumption) ?_ ?_
        rotate_left 2
        · intro wx hSx
          (try dsimp only at hSx)
          go_simp
          try with_reducible rfl
        rotate_left
        simp only [Act.put, List.setIfInBounds_toArray, List.set_cons_zero, List.set_cons_succ]
        refine take_on (i := 7) (some 20) ?_ rfl rfl (by kernel_rfl) (by kernel_rfl) (by kernel_rfl) (fun _ _ _ h => h) (by rfl) (by assumption) ?_ ?_
        rotate_left 2
        · intro wx hSx
          (try dsimp only at hSx)
          go_simp
          try with_reducible rfl
        rotate_left
        simp only [Act.put, List.setIfInBounds_toArray, List.set_cons_zero, List.set_cons_succ]
        refine take_on (i := 8) (some 21) ?_ rfl rfl (by kernel_rfl) (by kernel_rfl) (by kernel_rfl) (fun _ _ _ h => h) (by rfl) (by assumption) ?_ ?_
        rotate_left 2
        · intro wx hSx
          (try dsimp only at hSx)
          go_simp
          try with_reducible rfl
        rotate_left
        simp only [Act.put, List.setIfInBounds_toArray, List.set_cons_zero, List.set_cons_succ]
        refine take_on (i := 9) (some 22) ?_ rfl rfl (by kernel_rfl) (by kernel_rfl) (by kernel_rfl) (fun _ _ _ h => h) (by rfl) (by assumption) ?_ ?_
        rotate_left 2
        · intro wx hSx
          (try dsimp only at hSx)
          go_simp
          try with_reducible rfl
        rotate_left
        simp only [Act.put, List.setIfInBounds_toArray, List.set_cons_zero, List.set_cons_succ]
        refine take_on (i := 10) (some 23) ?_ rfl rfl (by kernel_rfl) (by kernel_rfl) (by kernel_rfl) (fun _ _ _ h => h) (by rfl) (by assumption) ?_ ?_
        rotate_left 2
        · intro wx hSx
          (try dsimp only at hSx)
          go_simp
          try with_reducible rfl
        rotate_left
        simp only [Act.put, List.setIfInBounds_toArray, List.set_cons_zero, List.set_cons_succ]
        refine take_on (i := 11) (some 24) ?_ rfl rfl (by kernel_rfl) (by kernel_rfl) (by kernel_rfl) (fun _ _ _ h => h) (by rfl) (by assumption) ?_ ?_
        rotate_left 2
        · intro wx hSx
          (try dsimp only at hSx)
          go_simp
          try with_reducible rfl
        rotate_left
        simp only [Act.put, List.setIfInBounds_toArray, List.set_cons_zero, List.set_cons_succ]
        refine take_on (i := 12) (some 25) ?_ rfl rfl (by kernel_rfl) (by kernel_rfl) (by kernel_rfl) (fun _ _ _ h => h) (by rfl) (by assumption) ?_ ?_
        rotate_left 2
        · intro wx hSx
          (try dsimp only at hSx)
          go_simp
          try with_reducible rfl
        rotate_left
        simp only [Act.put, List.setIfInBounds_toArray, List.set_cons_zero, List.set_cons_succ]
        refine take_on (i := 13) (some 26) ?_ rfl rfl (by kernel_rfl) (by kernel_rfl) (by kernel_rfl) (fun _ _ _ h => h) (by rfl) (by assumption) ?_ ?_
        rotate_left 2
        · intro wx hSx
          (try dsimp only at hSx)
          go_simp
          try with_reducible rfl
        rotate_left
        simp only [Act.put, List.setIfInBounds_toArray, List.set_cons_zero, List.set_cons_succ]
        refine take_on (i := 14) (some 27) ?_ rfl rfl (by kernel_rfl) (by kernel_rfl) (by kernel_rfl) (fun _ _ _ h => h) (by rfl) (by assumption) ?_ ?_
        rotate_left 2
        · intro wx hSx
          (try dsimp only at hSx)
          go_simp
          try with_reducible rfl
        rotate_left
        simp only [Act.put, List.setIfInBounds_toArray, List.set_cons_zero, List.set_cons_succ]
        refine take_on (i := 15) (some 28) ?_ rfl rfl (by kernel_rfl) (by kernel_rfl) (by kernel_rfl) (fun _ _ _ h => h) (by rfl) (by assumption) ?_ ?_
        rotate_left 2
        · intro wx hSx
          (try dsimp only at hSx)
          go_simp
          try with_reducible rfl
        rotate_left
        simp only [Act.put, List.setIfInBounds_toArray, List.set_cons_zero, List.set_cons_succ]
        refine take_on (i := 16) (some 29) ?_ rfl rfl (by kernel_rfl) (by kernel_rfl) (by kernel_rfl) (fun _ _ _ h => h) (by rfl) (by assumption) ?_ ?_
        rotate_left 2
        · intro wx hSx
          (try dsimp only at hSx)
          go_simp
          try with_reducible rfl
        rotate_left
        simp only [Act.put, List.setIfInBounds_toArray, List.set_cons_zero, List.set_cons_succ]
        refine take_on (i := 17) (some 30) ?_ rfl rfl (by kernel_rfl) (by kernel_rfl) (by kernel_rfl) (fun _ _ _ h => h) (by rfl) (by assumption) ?_ ?_
        rotate_left 2
        · intro wx hSx
          (try dsimp only at hSx)
          go_simp
          try with_reducible rfl
        rotate_left
        simp only [Act.put, List.setIfInBounds_toArray, List.set_cons_zero, List.set_cons_succ]
        refine take_on (i := 18) (some 31) ?_ rfl rfl (by kernel_rfl) (by kernel_rfl) (by kernel_rfl) (fun _ _ _ h => h) (by rfl) (by assumption) ?_ ?_
        rotate_left 2
        · intro wx hSx
          (try dsimp only at hSx)
          go_simp
          try with_reducible rfl
        rotate_left
        simp only [Act.put, List.setIfInBounds_toArray, List.set_cons_zero, List.set_cons_succ]
        refine take_on (i := 19) (some 32) ?_ rfl rfl (by kernel_rfl) (by kernel_rfl) (by kernel_rfl) (fun _ _ _ h => h) (by rfl) (by assumption) ?_ ?_
        rotate_left 2
        · intro wx hSx
          (try dsimp only at hSx)
          go_simp
          try with_reducible rfl
        rotate_left
        simp only [Act.put, List.setIfInBounds_toArray, List.set_cons_zero, List.set_cons_succ]
        refine take_on (i := 20) (some 33) ?_ rfl rfl (by kernel_rfl) (by kernel_rfl) (by kernel_rfl) (fun _ _ _ h => h) (by rfl) (by assumption) ?_ ?_
        rotate_left 2
        · intro wx hSx
          (try dsimp only at hSx)
          go_simp
          try with_reducible rfl
        rotate_left
        simp only [Act.put, List.setIfInBounds_toArray, List.set_cons_zero, List.set_cons_succ]
        refine wpAnyH_ready (rs := [21]) (by kernel_rfl) (by simp) (AllReadyH.cons rfl (fun K hK => ?_) AllReadyH.nil)
        rw [if_pos (by rfl)]
        go_simp
        refine hK.out _ _ c0 (fun hHeld => ?_)
        clear hK
        refine take_on (i := 22) (some 35) ?_ rfl rfl (by kernel_rfl) (by kernel_rfl) (by kernel_rfl) (fun _ _ _ h => h) (by rfl) (by assumption) ?_ ?_
        rotate_left 2
        · intro wx hSx
          (try dsimp only at hSx)
          go_simp
          try with_reducible rfl
        rotate_left
        simp only [Act.put, List.setIfInBounds_toArray, List.set_cons_zero, List.set_cons_succ]
        refine take_on (i := 23) (some 36) ?_ rfl rfl (by kernel_rfl) (by kernel_rfl) (by kernel_rfl) (fun _ _ _ h => h) (by rfl) (by assumption) ?_ ?_
        rotate_left 2
        · intro wx hSx
          (try dsimp only at hSx)
          go_simp
          try with_reducible rfl
        rotate_left
        simp only [Act.put, List.setIfInBounds_toArray, List.set_cons_zero, List.set_cons_succ]
        refine take_on (i := 24) (some 37) ?_ rfl rfl (by kernel_rfl) (by kernel_rfl) (by kernel_rfl) (fun _ _ _ h => h) (by rfl) (by assumption) ?_ ?_
        rotate_left 2
        · intro wx hSx
          (try dsimp only at hSx)
          go_simp
          try with_reducible rfl
        rotate_left
        simp only [Act.put, List.setIfInBounds_toArray, List.set_cons_zero, List.set_cons_succ]
        refine wpAnyH_done (by kernel_rfl) ?_ _
        refine NoPanic.normal ?_
        clear hHeld
        go_wp2_with fail
        have RW := R4.out.with (s.extract (r2 + 3) (r2 + 3 + m))
        have d0 := RW.cells.1
        have d1 := RW.cells.2.1
        clear RW
        refine wp_region_noPanic (wp_region_held_drew (S := fun w' => w'.cell? ⟨g, 0, none⟩ = some (.string s) ∧ w'.cell? ⟨g, 1, none⟩ = some (.int .i64 ((r2 + 3 : Nat) : Int))) (by kernel_rfl) ⟨c0, c1⟩ (fun hHeld => ?_))
        refine take_on (i := 0) (some 38) ?_ rfl rfl (by kernel_rfl) (by kernel_rfl) (by kernel_rfl) (fun _ _ _ h => h) (by rfl) (by assumption) ?_ ?_
        rotate_left 2
        · intro wx hSx
          obtain ⟨hSx1, hSx2⟩ := hSx
          go_simp
          try with_reducible rfl
        rotate_left
        simp only [Act.put, List.setIfInBounds_toArray, List.set_cons_zero, List.set_cons_succ]
        refine take_on (i := 1) (some 39) ?_ rfl rfl (by kernel_rfl) (by kernel_rfl) (by kernel_rfl) (fun _ _ _ h => h) (by rfl) (by assumption) ?_ ?_
        rotate_left 2
        · intro wx hSx
          obtain ⟨hSx1, hSx2⟩ := hSx
          go_simp
          try with_reducible rfl
        rotate_left
        simp only [Act.put, List.setIfInBounds_toArray, List.set_cons_zero, List.set_cons_succ]
        refine take_on (i := 2) (some 40) ?_ rfl rfl (by kernel_rfl) (by kernel_rfl) (by kernel_rfl) (fun _ _ _ h => h) (by rfl) (by assumption) ?_ ?_
        rotate_left 2
        · intro wx hSx
          obtain ⟨hSx1, hSx2⟩ := hSx
          go_simp
          try with_reducible rfl
        rotate_left
        simp only [Act.put, List.setIfInBounds_toArray, List.set_cons_zero, List.set_cons_succ]
        refine take_on (i := 3) (some 41) ?_ rfl rfl (by kernel_rfl) (by kernel_rfl) (by kernel_rfl) (fun _ _ _ h => h) (by rfl) (by assumption) ?_ ?_
        rotate_left 2
        · intro wx hSx
          obtain ⟨hSx1, hSx2⟩ := hSx
          go_simp
          try with_reducible rfl
        rotate_left
        simp only [Act.put, List.setIfInBounds_toArray, List.set_cons_zero, List.set_cons_succ]
        refine take_on (i := 4) (some 42) ?_ rfl rfl (by kernel_rfl) (by kernel_rfl) (by kernel_rfl) (fun _ _ _ h => h) (by rfl) (by assumption) ?_ ?_
        rotate_left 2
        · intro wx hSx
          obtain ⟨hSx1, hSx2⟩ := hSx
          go_simp
          try with_reducible rfl
        rotate_left
        simp only [Act.put, List.setIfInBounds_toArray, List.set_cons_zero, List.set_cons_succ]
        refine take_on (i := 5) (some 43) ?_ rfl rfl (by kernel_rfl) (by kernel_rfl) (by kernel_rfl) (fun _ _ _ h => h) (by rfl) (by assumption) ?_ ?_
        rotate_left 2
        · intro wx hSx
          obtain ⟨hSx1, hSx2⟩ := hSx
          go_simp
          try with_reducible rfl
        rotate_left
        simp only [Act.put, List.setIfInBounds_toArray, List.set_cons_zero, List.set_cons_succ]
        refine take_on (i := 6) (some 44) ?_ rfl rfl (by kernel_rfl) (by kernel_rfl) (by kernel_rfl) (fun _ _ _ h => h) (by rfl) (by assumption) ?_ ?_
        rotate_left 2
        · intro wx hSx
          obtain ⟨hSx1, hSx2⟩ := hSx
          go_simp
          try with_reducible rfl
        rotate_left
        simp only [Act.put, List.setIfInBounds_toArray, List.set_cons_zero, List.set_cons_succ]
        refine take_on (i := 7) (some 45) ?_ rfl rfl (by kernel_rfl) (by kernel_rfl) (by kernel_rfl) (fun _ _ _ h => h) (by rfl) (by assumption) ?_ ?_
        rotate_left 2
        · intro wx hSx
          obtain ⟨hSx1, hSx2⟩ := hSx
          go_simp
          try with_reducible rfl
        rotate_left
        simp only [Act.put, List.setIfInBounds_toArray, List.set_cons_zero, List.set_cons_succ]
        refine take_on (i := 8) (some 46) ?_ rfl rfl (by kernel_rfl) (by kernel_rfl) (by kernel_rfl) (fun _ _ _ h => h) (by rfl) (by assumption) ?_ ?_
        rotate_left 2
        · intro wx hSx
          obtain ⟨hSx1, hSx2⟩ := hSx
          go_simp
          try with_reducible rfl
        rotate_left
        simp only [Act.put, List.setIfInBounds_toArray, List.set_cons_zero, List.set_cons_succ]
        refine take_on (i := 9) (some 47) ?_ rfl rfl (by kernel_rfl) (by kernel_rfl) (by kernel_rfl) (fun _ _ _ h => h) (by rfl) (by assumption) ?_ ?_
        rotate_left 2
        · intro wx hSx
          obtain ⟨hSx1, hSx2⟩ := hSx
          go_simp
          try with_reducible rfl
        rotate_left
        simp only [Act.put, List.setIfInBounds_toArray, List.set_cons_zero, List.set_cons_succ]
        refine take_on (i := 10) (some 48) ?_ rfl rfl (by kernel_rfl) (by kernel_rfl) (by kernel_rfl) (fun _ _ _ h => h) (by rfl) (by assumption) ?_ ?_
        rotate_left 2
        · intro wx hSx
          obtain ⟨hSx1, hSx2⟩ := hSx
          go_simp
          try with_reducible rfl
        rotate_left
        simp only [Act.put, List.setIfInBounds_toArray, List.set_cons_zero, List.set_cons_succ]
        refine take_on (i := 11) (some 49) ?_ rfl rfl (by kernel_rfl) (by kernel_rfl) (by kernel_rfl) (fun _ _ _ h => h) (by rfl) (by assumption) ?_ ?_
        rotate_left 2
        · intro wx hSx
          obtain ⟨hSx1, hSx2⟩ := hSx
          go_simp
          try with_reducible rfl
        rotate_left
        simp only [Act.put, List.setIfInBounds_toArray, List.set_cons_zero, List.set_cons_succ]
        refine take_on (i := 12) (some 50) ?_ rfl rfl (by kernel_rfl) (by kernel_rfl) (by kernel_rfl) (fun _ _ _ h => h) (by rfl) (by assumption) ?_ ?_
        rotate_left 2
        · intro wx hSx
          obtain ⟨hSx1, hSx2⟩ := hSx
          go_simp
          try with_reducible rfl
        rotate_left
        simp only [Act.put, List.setIfInBounds_toArray, List.set_cons_zero, List.set_cons_succ]
        refine take_on (i := 13) (some 51) ?_ rfl rfl (by kernel_rfl) (by kernel_rfl) (by kernel_rfl) (fun _ _ _ h => h) (by rfl) (by assumption) ?_ ?_
        rotate_left 2
        · intro wx hSx
          obtain ⟨hSx1, hSx2⟩ := hSx
          go_simp
          try with_reducible rfl
        rotate_left
        simp only [Act.put, List.setIfInBounds_toArray, List.set_cons_zero, List.set_cons_succ]
        refine take_on (i := 14) (some 52) ?_ rfl rfl (by kernel_rfl) (by kernel_rfl) (by kernel_rfl) (fun _ _ _ h => h) (by rfl) (by assumption) ?_ ?_
        rotate_left 2
        · intro wx hSx
          obtain ⟨hSx1, hSx2⟩ := hSx
          go_simp
          try with_reducible rfl
        rotate_left
        simp only [Act.put, List.setIfInBounds_toArray, List.set_cons_zero, List.set_cons_succ]
        refine take_on (i := 15) (some 53) ?_ rfl rfl (by kernel_rfl) (by kernel_rfl) (by kernel_rfl) (fun _ _ _ h => h) (by rfl) (by assumption) ?_ ?_
        rotate_left 2
        · intro wx hSx
          obtain ⟨hSx1, hSx2⟩ := hSx
          go_simp
          try with_reducible rfl
        rotate_left
        simp only [Act.put, List.setIfInBounds_toArray, List.set_cons_zero, List.set_cons_succ]
        refine take_on (i := 16) (some 54) ?_ rfl rfl (by kernel_rfl) (by kernel_rfl) (by kernel_rfl) (fun _ _ _ h => h) (by rfl) (by assumption) ?_ ?_
        rotate_left 2
        · intro wx hSx
          obtain ⟨hSx1, hSx2⟩ := hSx
          go_simp
          try with_reducible rfl
        rotate_left
        simp only [Act.put, List.setIfInBounds_toArray, List.set_cons_zero, List.set_cons_succ]
        refine take_on (i := 17) (some 55) ?_ rfl rfl (by kernel_rfl) (by kernel_rfl) (by kernel_rfl) (fun _ _ _ h => h) (by rfl) (by assumption) ?_ ?_
        rotate_left 2
        · intro wx hSx
          obtain ⟨hSx1, hSx2⟩ := hSx
          go_simp
          try with_reducible rfl
        rotate_left
        simp only [Act.put, List.setIfInBounds_toArray, List.set_cons_zero, List.set_cons_succ]
        refine take_on (i := 18) (some 56) ?_ rfl rfl (by kernel_rfl) (by kernel_rfl) (by kernel_rfl) (fun _ _ _ h => h) (by rfl) (by assumption) ?_ ?_
        rotate_left 2
        · intro wx hSx
          obtain ⟨hSx1, hSx2⟩ := hSx
          go_simp
          try with_reducible rfl
        rotate_left
        simp only [Act.put, List.setIfInBounds_toArray, List.set_cons_zero, List.set_cons_succ]
        refine take_on (i := 19) (some 57) ?_ rfl rfl (by kernel_rfl) (by kernel_rfl) (by kernel_rfl) (fun _ _ _ h => h) (by rfl) (by assumption) ?_ ?_
        rotate_left 2
        · intro wx hSx
          obtain ⟨hSx1, hSx2⟩ := hSx
          go_simp
          try with_reducible rfl
        rotate_left
        simp only [Act.put, List.setIfInBounds_toArray, List.set_cons_zero, List.set_cons_succ]
        refine take_on (i := 20) (some 58) ?_ rfl rfl (by kernel_rfl) (by kernel_rfl) (by kernel_rfl) (fun _ _ _ h => h) (by rfl) (by assumption) ?_ ?_
        rotate_left 2
        · intro wx hSx
          obtain ⟨hSx1, hSx2⟩ := hSx
          go_simp
          try with_reducible rfl
        rotate_left
        simp only [Act.put, List.setIfInBounds_toArray, List.set_cons_zero, List.set_cons_succ]
        refine wpAnyH_ready (rs := [21]) (by kernel_rfl) (by simp) (AllReadyH.cons rfl (fun K hK => ?_) AllReadyH.nil)
        rw [if_pos (by rfl)]
        go_simp
        refine hK.out _ _ ⟨d0, d1⟩ (fun hHeld => ?_)
        clear hK
        refine wpAnyH_done (by kernel_rfl) ?_ _
        refine NoPanic.normal ?_
        clear hHeld d0 d1
        have R5 : Hid (Rdr (w4.setCell ⟨g, 2, none⟩ (.string (s.extract (r2 + 3) (r2 + 3 + m)))).drew g s (r2 + 3) (s.extract (r2 + 3) (r2 + 3 + m))) := Lib.hid ⟨(R4.out.with _).cell, R4.out.le, R4.out.few⟩
        have G5 : Hid (w.grownBy (w4.setCell ⟨g, 2, none⟩ (.string (s.extract (r2 + 3) (r2 + 3 + m)))).drew (some g)) := Lib.hid (by
          have h := grownBy_trans G4.out (grownBy_one w4 g 2 (.string (s.extract (r2 + 3) (r2 + 3 + m))))
          exact ⟨h.os, h.tape, h.output, h.size, h.block⟩)
        generalize (w4.setCell ⟨g, 2, none⟩ (.string (s.extract (r2 + 3) (r2 + 3 + m)))).drew = w5 at R5 G5 ⊢
        clear c0 c1 c2 f1 f2
        obtain ⟨c0, c1, c2, f1, f2⟩ := R5.out.cells
        cases hlo : litOk (s.extract (r2 + 3) (r2 + 3 + m)).data.toList with
        | true =>
          rw [hlo] at LI
          have HN := HTL.out
          rw [if_neg (by rw [hlo]; simp)] at HN
          have HN2 := Lib.hid HN
          clear HN hlo
          go_wp2_with fail
          refine (LI.out _).mono ?_
          rintro e w6 ⟨rfl, rfl⟩
          go_wp2_with fail
          go_ret
          have hto := R5.out.to (r2 + 3 + m) hb2
          rw [show ((r2 + 3 + m : Nat) : Int) = (r2 : Int) + 3 + (m : Int) by omega] at hto
          exact ⟨.inl ⟨_, _, HN2.out.symm, rfl, hto⟩, grownBy_trans G5.out (grownBy_one _ _ _ _)⟩
        | false =>
          rw [hlo] at LI
          have HN := HTL.out
          rw [if_pos hlo] at HN
          have HN2 := Lib.hid HN
          clear HN hlo
          go_wp2_with fail
          refine (LI.out _).mono ?_
          rintro e w6 ⟨rfl, rfl⟩
          go_wp2_with fail
          go_ret
          exact ⟨.inr ⟨HN2.out.symm, rfl⟩, grownBy_trans G5.out (grownBy_one _ _ _ _)⟩
end Go.Proofs.YtconopkmiicjeaaDoor
