/-
  The draw of a text: l03Text.
-/
import Derived.Test.YtplaomiegkaaiaaDoorBent
import Derived.Lib.Strings
import Derived.Deep.RegionHeld3
import Derived.Test.YtplaomiegkaaiaaDoorRow
import Derived.Test.YtplaomiegkaaiaaDoorWdO
namespace Go.Proofs.YtplaomiegkaaiaaDoor
set_option linter.unusedVariables false
open Go.RowKit

/-- A text of at most m bytes is drawn. -/
def DrawsWd (m : Nat) (w : World) (e : Ending) (w' : World) : Prop := ∃ s : ByteArray, e = .returned (.string s) ∧ s.size ≤ m ∧ Below w.heap.size w w'
/-- A text is drawn: of at most 61 bytes, or with a zero byte. -/
def DrawsTx (w : World) (e : Ending) (w' : World) : Prop := ∃ s : ByteArray, e = .returned (.string s) ∧ s.size ≤ 500 ∧ (s.size ≤ 61 ∨ hasL 0 s.data.toList = true) ∧ Below w.heap.size w w'
/-- A text is drawn: a short one, or one with a zero byte. -/
def DrawnTxt (K : Code) (w0 : World) (g : Nat) (w : World) (e : Ending) (w' : World) : Prop :=
  ∃ (s : ByteArray) (i' : Nat) (h' : Int), e = .returned (.string s) ∧ s.size ≤ 500 ∧ (s.size ≤ 61 ∨ hasL 0 s.data.toList = true) ∧ Cur K w0 w' g i' h' ∧ w.grownBy w' (some g)
theorem grownBy_any {a b : World} (h : a.grownBy b none) (row : Option Nat) : a.grownBy b row := ⟨h.os, h.tape, h.output, h.size, fun k hk _ => h.block k hk (by simp)⟩

theorem valsAt_grown {w w2 : World} {g b : Nat} {n cap : Nat} {l : List Value} (h : ValsAt w (.slice (some ⟨b, 0, none⟩) n cap) l) (hg : w.grownBy w2 (some g)) (hne : b ≠ g) : ValsAt w2 (.slice (some ⟨b, 0, none⟩) n cap) l := by
  rcases h with h | ⟨g', cap', h1, h2, h3⟩
  · exact .inl h
  · injection h1 with h1 h1'
    injection h1 with h1
    injection h1 with h1
    subst h1
    have hb := hg.block b h2 (by simpa using hne)
    refine .inr ⟨b, cap, by rw [h1'], Nat.lt_of_lt_of_le h2 hg.size, fun j hj => ?_⟩
    have := h3 j hj
    simp only [World.cell?, World.frozen?, hb] at this ⊢
    exact this
/-- One of a literal list, laid a while ago. -/
theorem pick_later {K : Code} {w0 w w2 : World} {g i : Nat} {h : Int} (c : Cur K w0 w2 g i h) (m : Nat) {cs : Array Value} {n cap : Nat} (hg : (w.alloc (.cells cs 9)).grownBy w2 (some g)) (hgl : g < w.heap.size) (hall : allStr m cs = true) (hn : n = cs.size) (h0 : 0 < n) (h9 : n ≤ 1000) :
    Calls Tryd.prog 47 #[.pointer (some ⟨g, 0, none⟩), .slice (some ⟨w.heap.size, 0, none⟩) n cap] w2 (DrawnStr K w0 g m w2) := by
  obtain ⟨L, h1, h2⟩ := allStr_list _ _ hall
  have hL : L.length = n := by
    have := congrArg List.length h1
    simp at this; omega
  have hv := valsAt_new w (L.map Value.string) 9 n cap (by simp [hL])
  rw [← h1] at hv
  simp only [Array.toArray_toList] at hv
  rw [h1] at hv
  refine (pick_any c _ L (valsAt_grown hv hg (by omega)) (by simp [Value.ownBlock]; omega) (by omega) (by omega)).mono ?_
  rintro e w' ⟨s, i', h', e1, e2, e3, e4⟩
  exact ⟨s, i', h', e1, h2 s e2, e3, e4⟩

theorem made_bytes (n : Nat) : (madeCells (Value.int .u8 0).cells (n * 1)).toList = (List.replicate n (0 : UInt8)).map bv := by
  apply List.ext_getElem
  · simp [madeCells]
  · intro i h1 h2
    simp [madeCells, bv, Value.cells, Nat.mod_one]

set_option maxRecDepth 100000 in
set_option maxHeartbeats 400000 in
theorem text3_any {K : Code} {w0 w : World} {g i : Nat} {h : Int} (c : Cur K w0 w g i h) :
    Calls Tryd.prog 50 #[.pointer (some ⟨g, 0, none⟩)] w (DrawnTxt K w0 g w) := by
  obtain ⟨i0, hi, hz0, hz1, hz2⟩ := info_parts infoByteJ
  have C := Lib.hid c
  clear c
  go_enter Tryd.func50, Tryd.ntmps50
  go_wp2_with fail
  refine (below_any C.out 8 (by decide) (by decide)).mono ?_
  rintro e w1 ⟨x0, i1, h1, rfl, hx0, hx1, hc1, hg1, _⟩
  have C1 := Lib.hid hc1
  have G1 := Lib.hid hg1
  clear hc1 hg1
  by_cases k0 : x0 = 0
  · subst k0
    go_wp2_with fail
    refine (below_any C1.out 3 (by decide) (by decide)).mono ?_
    rintro e w2 ⟨y0, i2, h2, rfl, hy0, hy1, hc2, hg2, _⟩
    obtain ⟨y, rfl⟩ := Int.eq_ofNat_of_zero_le hy0
    have C2 := Lib.hid hc2
    have G2 := Lib.hid (grownBy_trans G1.out hg2)
    clear hc2 hg2
    go_wp2_with fail
    obtain ⟨w3, hrun, r1, r2⟩ := run_make_full (P := Tryd.prog) w2 w2.heap.size 22 5 i0 (.int .u8 0) 1 Tryd.underlying22 hi hz0 hz1 .i64 .i64 (399 + y) (by rw [hz2]; omega) (by unfold maxLen; omega) (Nat.le_refl _)
    rw [made_bytes] at r1
    have hrun2 : (Instr.makeSlice 22 (.int .i64 (399 + (y : Int))) (.int .i64 (399 + (y : Int)))).run Tryd.prog w2 = .ok (.slice (some ⟨w2.heap.size, 0, none⟩) (399 + y) (399 + y)) w3 := by simpa using hrun
    have hback := rowJ_back (P := Tryd.prog) (l := List.replicate (399 + y) 0) (by simpa using r1) 22 9 5 Tryd.underlying22 Tryd.underlying5 Tryd.underlying9
    have C3 := Lib.hid (C2.out.later ⟨r2.os, r2.tape, r2.output, r2.size, fun k hk => r2.block k hk (by simp)⟩)
    have G3 := Lib.hid (grownBy_trans G2.out (grownBy_any r2 (some g)))
    have hls : (⟨(List.replicate (399 + y) (0 : UInt8)).toArray⟩ : ByteArray).size ≤ 500 := by
      show (List.replicate (399 + y) (0 : UInt8)).toArray.size ≤ 500
      rw [List.size_toArray, List.length_replicate]
      omega
    have hlz : hasL 0 (⟨(List.replicate (399 + y) (0 : UInt8)).toArray⟩ : ByteArray).data.toList = true := by
      show hasL 0 (List.replicate (399 + y) 0) = true
      unfold hasL
      rw [List.any_eq_true]
      exact ⟨0, List.mem_replicate.2 ⟨by omega, rfl⟩, rfl⟩
    generalize (⟨(List.replicate (399 + y) (0 : UInt8)).toArray⟩ : ByteArray) = Z at hback hls hlz
    have HZ := Lib.hid hlz
    clear hlz
    clear r1 r2 hrun
    rw [hrun2]
    go_wp2_with fail
    go_ret
    exact ⟨Z, i2, h2, rfl, hls, .inr HZ.out, C3.out, G3.out⟩
  · by_cases k1 : x0 = 1
    · subst k1
      go_wp2_with fail
      obtain ⟨A, hA⟩ : ∃ A : ByteArray, A = ⟨#[97, 97, 97, 97, 97, 97, 97, 97, 97, 97, 97, 97, 97, 97, 97, 97, 97, 97, 97, 97, 97, 97, 97, 97, 97, 97, 97, 97, 97, 97]⟩ := ⟨_, rfl⟩
      have hA1 : 30 ≤ A.size := by rw [hA]; decide
      have hA2 : A.size ≤ 30 := by rw [hA]; decide
      rw [← hA]
      clear hA
      have C1d := C1.out.later ((Below.refl _ _).drew)
      have hgl := C1d.lt
      go_region_held3 (fun _ => True) (first | go_keep | exact trivial) (first | (go_at_call 59; refine (below_any C1d 2 (by decide) (by decide)).mono ?_; rintro e w2 ⟨y0, i2, h2, rfl, hy0, hy1, hc2, hg2, _⟩; obtain ⟨y, rfl⟩ := Int.eq_ofNat_of_zero_le hy0; have q1 : (0 : Int) ≤ 29 + (y : Int) := (by omega); have q2 : 29 + (y : Int) ≤ (A.size : Int) := (by omega); have q3 : (29 + (y : Int)).toNat = 29 + y := (by omega); have q4 : IntKind.i64.wrap (29 + (y : Int)) = 29 + (y : Int) := (by rw [IntKind.wrap_i64]; omega); have q5 : ¬ 9223372036854775807 < A.size + (29 + y) := (by omega); have q6 : min (29 + y) A.size = 29 + y := (by omega); have q8 : 29 + y ≤ A.size := (by omega); have HA := Lib.hid hg2; clear hg2) | (go_at_call 59; refine (below_any (C1d.alloc _) 2 (by decide) (by decide)).mono ?_; rintro e w2 ⟨y0, i2, h2, rfl, hy0, hy1, hc2, hg2, _⟩; obtain ⟨y, rfl⟩ := Int.eq_ofNat_of_zero_le hy0; have q1 : (0 : Int) ≤ 29 + (y : Int) := (by omega); have q2 : 29 + (y : Int) ≤ (A.size : Int) := (by omega); have q3 : (29 + (y : Int)).toNat = 29 + y := (by omega); have q4 : IntKind.i64.wrap (29 + (y : Int)) = 29 + (y : Int) := (by rw [IntKind.wrap_i64]; omega); have q5 : ¬ 9223372036854775807 < A.size + (29 + y) := (by omega); have q6 : min (29 + y) A.size = 29 + y := (by omega); have q8 : 29 + y ≤ A.size := (by omega); have HB := Lib.hid hg2; clear hg2) | (go_at_call 47; have hz := HA.out; refine (pick_lit hc2 1 (by decide) (by rfl) (by decide) (by decide)).mono ?_; rintro e w3 ⟨t, i3, h3, rfl, ht, hc3, hg3⟩; have q7 : ¬ 9223372036854775807 < A.size + (29 + y) + t.size := (by omega)) | (go_at_call 47; have hz := HB.out; refine (pick_later hc2 1 hz hgl (by decide) (by rfl) (by decide) (by decide)).mono ?_; rintro e w3 ⟨t, i3, h3, rfl, ht, hc3, hg3⟩; have q7 : ¬ 9223372036854775807 < A.size + (29 + y) + t.size := (by omega)))
      · have G3 := Lib.hid (grownBy_trans G1.out (grownBy_undrew (grownBy_trans HA.out hg3)))
        have C3 := Lib.hid hc3
        clear hg3 hc3
        go_wp2_with fail
        go_ret
        exact ⟨_, i3, h3, rfl, by simp; omega, .inl (by simp; omega), C3.out, G3.out⟩
      · have G3 := Lib.hid (grownBy_trans G1.out (grownBy_undrew (grownBy_trans (grownBy_trans (World.grownBy_alloc _ _ _) HB.out) hg3)))
        have C3 := Lib.hid hc3
        clear hg3 hc3
        go_wp2_with fail
        go_ret
        exact ⟨_, i3, h3, rfl, by simp; omega, .inl (by simp; omega), C3.out, G3.out⟩
    · have t0 : (x0 == 0) = false := by rw [beq_eq_false_iff_ne]; exact k0
      have t1 : (x0 == 1) = false := by rw [beq_eq_false_iff_ne]; exact k1
      go_wp2_with fail
      refine (pick_lit C1.out 20 (by decide) (by rfl) (by decide) (by decide)).mono ?_
      rintro e w3 ⟨t, i3, h3, rfl, ht, hc3, hg3⟩
      have C3 := Lib.hid hc3
      have G3 := Lib.hid (grownBy_trans G1.out hg3)
      clear hc3 hg3
      go_wp2_with fail
      go_ret
      exact ⟨t, i3, h3, rfl, by omega, .inl (by omega), C3.out, G3.out⟩
end Go.Proofs.YtplaomiegkaaiaaDoor
