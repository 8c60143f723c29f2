/-
  The draws: a new cursor, and a number below another.
-/
import Derived.Test.YtjleadlecdcdeaaDrawA
namespace Go.Proofs.Ytjleadlecdcdeaa
set_option linter.unusedVariables false
open Go.RowKit

/-- A new cursor in a block of its own. -/
def DrawnNew (K : Code) (w0 w : World) (e : Ending) (w' : World) : Prop :=
  ∃ h : Int, e = .returned (.pointer (some ⟨w.heap.size, 0, none⟩)) ∧ Cur K w0 w' w.heap.size 0 h ∧ Below w.heap.size w w'

set_option maxRecDepth 100000 in
set_option maxHeartbeats 400000 in
theorem new_any (K : Code) (w0 w : World) (hr : IsRow .u8 w0 K.a K.len K.cap K.zs) (hl : K.len ≤ 1048576) (hb : Below w0.heap.size w0 w) :
    Calls Try.prog 35 #[.slice K.a K.len K.cap] w (DrawnNew K w0 w) := by
  have HB := Lib.hid hb
  have HR := Lib.hid hr
  clear hb hr
  go_enter Try.func35, Try.ntmps35
  go_wp2
  go_loop [3, 4] (fun h i => ∃ (k : Nat) (q : Int), k ≤ K.len ∧ i = .int .i64 k ∧ h = .int .i64 q) (fun _ i => K.len - (intOf i).toNat)
  case atStart => exact ⟨0, _, Nat.zero_le _, rfl, rfl⟩
  case round =>
    obtain ⟨k, q, hk, rfl, rfl⟩ := hrel
    by_cases hlt : k < K.len ∧ k < 4000
    · obtain ⟨h1, h2⟩ := hlt
      obtain ⟨b, off, n, ha, hcn0, hn0, hn1, hbl⟩ := HR.out.at k h1
      have hcn : w.cell? ⟨b, off + k, none⟩ = some (.int .u8 n) := (HB.out.cell (p := ⟨b, off + k, none⟩) hbl).trans hcn0
      have hi1 : (0 : Int) ≤ (k : Int) := by omega
      have hi2 : (k : Int) < (K.len : Int) := by omega
      rw [ha]
      clear hcn0
      go_wp2
      go_round
      case rel => exact ⟨k + 1, _, by omega, by go_num, rfl⟩
      case measure => simp [intOf]; omega
    · have HN := Lib.hid hlt
      clear hlt
      by_cases h1 : k < K.len
      · have h2 : (4000 : Int) ≤ (k : Int) := by have := HN.out; omega
        have h3 : decide ((k : Int) < 4000) = false := by simp; omega
        go_wp2
        go_ret
        exact ⟨q, rfl, ⟨HR.out, hl, HB.out.size, HB.out.alloc HB.out.size _, by simpa using heap_alloc_new w _, Nat.zero_le _⟩, (Below.refl _ _).alloc (Nat.le_refl _) _⟩
      · go_wp2
        go_ret
        exact ⟨q, rfl, ⟨HR.out, hl, HB.out.size, HB.out.alloc HB.out.size _, by simpa using heap_alloc_new w _, Nat.zero_le _⟩, (Below.refl _ _).alloc (Nat.le_refl _) _⟩

/-- A number below n is drawn. -/
def DrawnBelow (K : Code) (w0 : World) (g i : Nat) (h n : Int) (w : World) (e : Ending) (w' : World) : Prop :=
  ∃ (v : Int) (i' : Nat) (h' : Int), e = .returned (.int .i64 v) ∧ 0 ≤ v ∧ v < n ∧ Cur K w0 w' g i' h' ∧ w.grownBy w' (some g) ∧
    (n ≤ 256 → h' = nextH h ∧ ((i < K.len ∧ i' = i + 1) ∨ (i = K.len ∧ i' = i ∧ v = rawX h' % n)))

theorem byte_any {K : Code} {w0 w : World} {g i : Nat} {h : Int} (c : Cur K w0 w g i h) :
    Calls Try.prog 70 #[.pointer (some ⟨g, 0, none⟩)] w (DrawnByte K w0 g i h w) := by
  by_cases hi : i < K.len
  · exact byte_more c hi
  · exact byte_end c (by omega)

set_option maxRecDepth 100000 in
set_option maxHeartbeats 400000 in
theorem below_any {K : Code} {w0 w : World} {g i : Nat} {h : Int} (c : Cur K w0 w g i h) (n : Int) (h1 : 1 ≤ n) (h2 : n ≤ 4294967296) :
    Calls Try.prog 38 #[.pointer (some ⟨g, 0, none⟩), .int .i64 n] w (DrawnBelow K w0 g i h n w) := by
  have C := Lib.hid c
  clear c
  by_cases hs : n ≤ 256
  · go_enter Try.func38, Try.ntmps38
    go_wp2_with fail
    refine (byte_any C.out).mono ?_
    rintro e w1 ⟨x, i', h', rfl, hx0, hx1, hc1, hg1, hh, hor⟩
    have HC1 := Lib.hid hc1
    have HG1 := Lib.hid hg1
    have HH := Lib.hid hh
    have HOR := Lib.hid hor
    clear hc1 hg1 hh hor
    go_wp2_with fail
    go_ret
    refine ⟨x % n, i', h', rfl, Int.emod_nonneg _ (by omega), Int.emod_lt_of_pos _ (by omega), HC1.out, HG1.out, fun _ => ⟨HH.out, ?_⟩⟩
    rcases HOR.out with ⟨a, b⟩ | ⟨a, b, d⟩
    · exact .inl ⟨a, b⟩
    · exact .inr ⟨a, b, by rw [d]⟩
  · have hs' : 256 < n := by omega
    clear hs
    go_enter Try.func38, Try.ntmps38
    go_wp2_with fail
    refine (byte_any C.out).mono ?_
    rintro e w1 ⟨x1, i1, q1, rfl, hx1, hy1, hc1, hg1, _, _⟩
    have HC1 := Lib.hid hc1
    have HG1 := Lib.hid hg1
    clear hc1 hg1
    go_wp2_with fail
    refine (byte_any HC1.out).mono ?_
    rintro e w2 ⟨x2, i2, q2, rfl, hx2, hy2, hc2, hg2, _, _⟩
    have HC2 := Lib.hid hc2
    have HG2 := Lib.hid hg2
    clear hc2 hg2
    go_wp2_with fail
    refine (byte_any HC2.out).mono ?_
    rintro e w3 ⟨x3, i3, q3, rfl, hx3, hy3, hc3, hg3, _, _⟩
    have HC3 := Lib.hid hc3
    have HG3 := Lib.hid hg3
    clear hc3 hg3
    go_wp2_with fail
    refine (byte_any HC3.out).mono ?_
    rintro e w4 ⟨x4, i4, q4, rfl, hx4, hy4, hc4, hg4, _, _⟩
    have HC4 := Lib.hid hc4
    have HG4 := Lib.hid hg4
    clear hc4 hg4
    go_wp2_with fail
    go_ret
    exact ⟨_, i4, q4, rfl, Int.emod_nonneg _ (by omega), Int.emod_lt_of_pos _ (by omega), HC4.out, grownBy_trans (grownBy_trans (grownBy_trans HG1.out HG2.out) HG3.out) HG4.out, fun hn => by omega⟩
end Go.Proofs.Ytjleadlecdcdeaa
