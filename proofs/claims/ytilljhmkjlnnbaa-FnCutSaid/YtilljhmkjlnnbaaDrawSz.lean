/-
  The draws of frames: l04Sizes, DrawCut.
-/
import Derived.Test.YtilljhmkjlnnbaaDrawFr
import Derived.Test.YtilljhmkjlnnbaaPickI
import Derived.Test.YtilljhmkjlnnbaaIntS
namespace Go.Proofs.Ytilljhmkjlnnbaa
set_option linter.unusedVariables false
open Go.RowKit

/-- A row of few numbers of the call's own, and the cursor. -/
def IntsCur (K : Code) (w0 w : World) (g m : Nat) (v : Value) (wr : World) : Prop :=
  ∃ (l : List Int) (i : Nat) (h : Int), l.length ≤ m ∧ (∀ x ∈ l, -1 ≤ x ∧ x ≤ 1000) ∧ wr.ownsRow w.heap.size 3 1 v l.length (l.map iv) ∧ Cur K w0 wr g i h ∧ w.grownBy wr (some g)
def DrawnInts (K : Code) (w0 : World) (g m : Nat) (w : World) (e : Ending) (w' : World) : Prop := ∃ v, e = .returned v ∧ IntsCur K w0 w g m v w'

set_option maxRecDepth 100000 in
set_option maxHeartbeats 2000000 in
theorem sizes_any {K : Code} {w0 w : World} {g i : Nat} {h : Int} (c : Cur K w0 w g i h) :
    Calls Try.prog 24 #[.pointer (some ⟨g, 0, none⟩)] w (DrawnInts K w0 g 7 w) := by
  obtain ⟨i0, hi, hz0, hz1, hz2⟩ := info_parts infoInt
  have hgl := c.lt
  have C := Lib.hid c
  clear c
  go_enter Try.func24, Try.ntmps24
  go_wp2_with fail
  refine (below_any (C.out.alloc _) 8 (by decide) (by decide)).mono ?_
  rintro e w1 ⟨n0, i1, h1, rfl, hn0, hn1, hc1, hg1, _⟩
  obtain ⟨n, rfl⟩ := Int.eq_ofNat_of_zero_le hn0
  have hn7 : n ≤ 7 := by omega
  have hst : IntsCur K w0 w g 0 (.slice (some ⟨w.heap.size, 0, none⟩) 0 0) w1 := ⟨[], i1, h1, by simp, by simp, row_stay hgl (World.ownsRow_lit w #[] 0 (Nat.le_refl _) (by decide) rfl) hg1, hc1, grownBy_trans (World.grownBy_alloc _ _ _) hg1⟩
  have ST := Lib.hid hst
  clear hc1 hg1 hn0 hn1 hst
  go_wp2_with fail
  go_loopw [3, 5] (fun v j wr => ∃ k : Nat, k ≤ n ∧ j = .int .i64 (k : Int) ∧ Hid (IntsCur K w0 w g k v wr)) (fun _ j _ => n - (intOf j).toNat)
  case atStart => exact ⟨0, Nat.zero_le _, rfl, ST⟩
  case round =>
    obtain ⟨k, hk, rfl, HS⟩ := hrel
    obtain ⟨l, i2, h2, hl, hb, hrow, hc2, hg2⟩ := HS.out
    have C2 := Lib.hid hc2
    have G2 := Lib.hid hg2
    have HB := Lib.hid hb
    by_cases hlt : k < n
    · have g1 : decide ((k : Int) < (n : Int)) = true := by simp; omega
      have RW := Lib.hid hrow
      clear hc2 hg2 hb hrow HS
      go_wp2_with fail
      refine (pickInt_lit C2.out [0, 1, 2, 5, 13, 40, -1] (fun x => -1 ≤ x ∧ x ≤ 1000) (by intro x hx; simp only [List.mem_cons, List.not_mem_nil, or_false] at hx; omega) (by rfl) (by rfl) (by decide) (by decide)).mono ?_
      rintro e w3 ⟨x, i3, h3, rfl, hx, hc3, hg3⟩
      have hown := row_stay hgl RW.out hg3
      have C3 := Lib.hid hc3
      have G3 := Lib.hid (grownBy_trans G2.out hg3)
      have hsz := G3.out.size
      have HX := Lib.hid hx
      clear hc3 hg3 hx
      go_wp2_with (first | (at_builtin; refine wpList_append_own _ rfl _ _ 24 rfl w.heap.size 3 i0 (.int .i64 0) 1 8 Try.underlying24 hi hz0 hz1 hz2 rfl (by decide) _ _ _ rfl (hown.alloc _) ⟨w3.heap.size, 0, none⟩ 1 1 [.int .i64 x] rfl rfl (cell_one_new _ _ _) (by simp [Value.oneCell']) (by unfold maxLen; omega) (by omega) (by simp; omega) ?_; intro v' w4 hown' hgrow _))
      have hst := app_stay G3.out hgl hown hgrow
      have HS4 : Hid (IntsCur K w0 w g (k + 1) v' w4) := Lib.hid ⟨l ++ [x], i3, h3, by simp; omega, by
          intro y hy
          rcases List.mem_append.1 hy with hy | hy
          · exact HB.out y hy
          · rw [List.mem_singleton.1 hy]
            exact HX.out, by simpa [iv] using hown', C.out.step hst.2 i3 h3 C3.out.le (hst.1.trans C3.out.cell), hst.2⟩
      clear hst hown hown' hgrow
      go_wp2_with fail
      go_roundw
      case rel => exact ⟨k + 1, by omega, by go_num, HS4⟩
      case measure => simp [intOf]; omega
    · have g1 : decide ((k : Int) < (n : Int)) = false := by simp; omega
      have RW := Lib.hid hrow
      clear hc2 hg2 hb hrow HS
      go_wp2_with fail
      go_ret
      exact ⟨_, rfl, l, i2, h2, by omega, HB.out, RW.out, C2.out, G2.out⟩

/-- A text and sizes are drawn. -/
def DrawsCut (w : World) (e : Ending) (w' : World) : Prop :=
  ∃ (s : ByteArray) (v : Value) (l : List Int), e = .returned (.tuple #[.string s, v]) ∧ s.size ≤ 1500 ∧ l.length ≤ 7 ∧ (∀ x ∈ l, -1 ≤ x ∧ x ≤ 1000) ∧ w'.ownsRow w.heap.size 3 1 v l.length (l.map iv) ∧ Below w.heap.size w w'
theorem ownsRow_from {w : World} {B B' : Nat} {e : TypeId} {v : Value} {n : Nat} {xs : List Value} (h : w.ownsRow B' e 1 v n xs) (hb : B ≤ B') : w.ownsRow B e 1 v n xs := by
  refine ⟨h.1, ?_⟩
  rcases h.2 with h2 | ⟨g, cap, cur, h3, h4, h5⟩
  · exact .inl h2
  · exact .inr ⟨g, cap, cur, h3, Nat.le_trans hb h4, h5⟩
set_option maxRecDepth 100000 in
set_option maxHeartbeats 400000 in
theorem drawCut_any (K : Code) (w0 w : World) (hr : IsRow .u8 w0 K.a K.len K.cap K.zs) (hl : K.len ≤ 1048576) (hb : Below w0.heap.size w0 w) :
    Calls Try.prog 7 #[.slice K.a K.len K.cap] w (DrawsCut w) := by
  go_enter Try.func7, Try.ntmps7
  go_wp2_with fail
  refine (new_any K w0 w hr hl hb).mono ?_
  rintro e w1 ⟨h1, rfl, hc1, hB1⟩
  have C1 := Lib.hid hc1
  have B1 := Lib.hid hB1
  clear hc1 hB1
  go_wp2_with fail
  refine (bytes4_any C1.out).mono ?_
  rintro e w2 ⟨s, i2, h2, rfl, hs, hc2, hg2⟩
  have C2 := Lib.hid hc2
  have B2 := Lib.hid (below_step B1.out hg2 (Nat.le_refl _))
  clear hc2 hg2
  go_wp2_with fail
  refine (sizes_any C2.out).mono ?_
  rintro e w3 ⟨v, rfl, l, i3, h3, hll, hlb, hrow, hc3, hg3⟩
  have B3 := Lib.hid (below_step B2.out hg3 (Nat.le_refl _))
  have R3 := Lib.hid (ownsRow_from hrow B2.out.size)
  clear hc3 hg3 hrow
  go_wp2_with fail
  go_ret2
  exact ⟨s, v, l, rfl, hs, hll, hlb, R3.out, B3.out⟩
end Go.Proofs.Ytilljhmkjlnnbaa
