/-
  Fields that came in: the walks of the laws' szField, szFieldS, toField, toFieldS.
-/
import Derived.Test.YtfgfbdfijpecfaaFlG
import Derived.Test.YtfgfbdfijpecfaaPutL
namespace Go.Proofs.Ytfgfbdfijpecfaa
set_option linter.unusedVariables false
open Go.RowKit

def szF (f : Fl) (left : Int) : Int := if left - f.name.length < 0 then -1 else if left - f.name.length - f.body.length < 0 then -1 else left - f.name.length - f.body.length
def szL : List Fl → Int → Int
  | [], left => left
  | f :: r, left => if szF f left < 0 then -1 else szL r (szF f left)
def szS (l : List Fl) (left : Int) : Int := if left - l.length < 0 then -1 else szL l (left - l.length)
theorem szF_ok {f : Fl} {left : Int} (h : 0 ≤ szF f left) : szF f left = left - f.name.length - f.body.length := by
  unfold szF at h ⊢
  split at h
  · omega
  · split at h
    · omega
    · rw [if_neg (by assumption), if_neg (by assumption)]
theorem szL_ok : ∀ (l : List Fl) (left : Int), 0 ≤ szL l left → ((putL l).length : Int) ≤ left + 4 * l.length
  | [], left, h => by simp [putL, szL] at h ⊢; exact h
  | f :: r, left, h => by
    rw [szL] at h
    split at h
    · omega
    · have h1 := szF_ok (f := f) (left := left) (by omega)
      have h2 := szL_ok r _ h
      rw [putL_cons, List.length_append, putF_len, List.length_cons]
      omega
theorem szS_ok {l : List Fl} {left : Int} (h : 0 ≤ szS l left) : (l.length : Int) ≤ left ∧ ((putL l).length : Int) ≤ left + 4 * left := by
  unfold szS at h
  split at h
  · omega
  · have := szL_ok l _ h
    omega

set_option maxRecDepth 100000 in
set_option maxHeartbeats 400000 in
theorem szField_any (f : Fl) (left : Int) (w : World) (h1 : -9223372036854775808 ≤ left - f.name.length) (h2 : left ≤ 1048576) (hb : f.body.length ≤ 9223372036854775807) (hn : f.name.length ≤ 9223372036854775807) :
    Calls Try.prog 37 #[.agg #[.string (mkB f.name), .string (mkB f.body)], .int .i64 left] w fun e w' => e = .returned (.int .i64 (szF f left)) ∧ Below w.heap.size w w' := by
  obtain ⟨R, hR⟩ : ∃ R, szF f left = R := ⟨_, rfl⟩
  rw [hR]
  unfold szF at hR
  have n1 := mkB_size f.name
  have n2 := mkB_size f.body
  rw [← n1, ← n2] at hR
  rw [← n1] at h1 hn
  rw [← n2] at hb
  generalize mkB f.name = nm at hR h1 hn
  generalize mkB f.body = bd at hR hb
  have e1 : IntKind.i64.wrap (left - (nm.size : Int)) = left - (nm.size : Int) := by rw [IntKind.wrap_i64]; omega
  by_cases ha : left - (nm.size : Int) < 0
  · rw [if_pos ha] at hR
    subst hR
    have g1 : decide (left - (nm.size : Int) < 0) = true := by simpa using ha
    clear n1 n2
    go_enter Try.func37, Try.ntmps37
    go_wp2_with fail
    go_ret
    exact ⟨rfl, (Below.refl _ _).alloc (Nat.le_refl _) _⟩
  · rw [if_neg ha] at hR
    have g1 : decide (left - (nm.size : Int) < 0) = false := by simpa using ha
    have e2 : IntKind.i64.wrap (left - (nm.size : Int) - (bd.size : Int)) = left - (nm.size : Int) - (bd.size : Int) := by rw [IntKind.wrap_i64]; omega
    by_cases hc : left - (nm.size : Int) - (bd.size : Int) < 0
    · rw [if_pos hc] at hR
      subst hR
      have g2 : decide (left - (nm.size : Int) - (bd.size : Int) < 0) = true := by simpa using hc
      clear n1 n2
      go_enter Try.func37, Try.ntmps37
      go_wp2_with fail
      go_ret
      exact ⟨rfl, (Below.refl _ _).alloc (Nat.le_refl _) _⟩
    · rw [if_neg hc] at hR
      have HR := Lib.hid hR
      have g2 : decide (left - (nm.size : Int) - (bd.size : Int) < 0) = false := by simpa using hc
      clear n1 n2 hR
      go_enter Try.func37, Try.ntmps37
      go_wp2_with fail
      go_ret
      exact ⟨by rw [HR.out] <;> rfl, (Below.refl _ _).alloc (Nat.le_refl _) _⟩

set_option maxRecDepth 100000 in
set_option maxHeartbeats 400000 in
theorem toField_any (nm bd : ByteArray) (w : World) :
    Calls Try.prog 38 #[.agg #[.string nm, .string bd]] w fun e w' => e = .returned (.agg #[.string nm, .string bd]) ∧ Below w.heap.size w w' := by
  go_enter Try.func38, Try.ntmps38
  go_wp2_with fail
  have q : ∀ j v, (((w.alloc (.cells #[.string nm, .string bd] 54)).alloc (.cells #[.string nm, .string bd] 35))).cell? ⟨w.heap.size + 1, j, none⟩ = some v →
      ((((w.alloc (.cells #[.string nm, .string bd] 54)).alloc (.cells #[.string nm, .string bd] 35)).alloc (.cells #[.string nm, .string bd] 35))).cell? ⟨w.heap.size + 1, j, none⟩ = some v := fun j v h => by
    rw [((Below.refl _ _).alloc (Nat.le_refl _) _).cell (p := ⟨w.heap.size + 1, j, none⟩) (by simp)]
    exact h
  have q0 := q 0 (.string nm) (by
    have h := cells2_0 (w.alloc (.cells #[.string nm, .string bd] 54)) (.string nm) (.string bd) 35
    rw [show (w.alloc (.cells #[.string nm, .string bd] 54)).heap.size = w.heap.size + 1 by simp] at h
    exact h)
  have q1 := q 1 (.string bd) (by
    have h := cells2_1 (w.alloc (.cells #[.string nm, .string bd] 54)) (.string nm) (.string bd) 35
    rw [show (w.alloc (.cells #[.string nm, .string bd] 54)).heap.size = w.heap.size + 1 by simp] at h
    exact h)
  refine bodyPost_ret (v := .agg #[.string nm, .string bd]) (by simp [results, Try.results38, go_sem, q0, q1]) rfl ⟨rfl, (((Below.refl _ _).alloc (Nat.le_refl _) _).alloc (by simp) _).alloc (by simp; omega) _⟩

theorem fls_cells {w : World} {p : Option Addr} {n cap k : Nat} {l : List Fl} (h : FlsAt w (.slice p n cap) l) (hn : n = l.length) (hk : k < l.length) :
    ∃ g off, p = some ⟨g, off, none⟩ ∧ g < w.heap.size ∧ w.cell? ⟨g, off + k * 2, none⟩ = some (.string (mkB l[k].name)) ∧ w.cell? ⟨g, off + k * 2 + 1, none⟩ = some (.string (mkB l[k].body)) := by
  rcases h with ⟨rfl, _⟩ | ⟨g, off, c2, h1, h2, h3⟩
  · simp at hk
  · injection h1 with e1 e2 e3
    exact ⟨g, off, e1, h2, h3 k hk⟩
theorem szL_drop (l : List Fl) (k : Nat) (left : Int) (h : k < l.length) : szL (l.drop k) left = if szF l[k] left < 0 then -1 else szL (l.drop (k + 1)) (szF l[k] left) := by
  rw [List.drop_eq_getElem_cons h, szL]
theorem szF_le (f : Fl) (left : Int) (h : 0 ≤ szF f left) : szF f left ≤ left := by
  rw [szF_ok h]; omega

set_option maxRecDepth 100000 in
set_option maxHeartbeats 1000000 in
theorem szFieldS_any (v : Value) (l : List Fl) (w : World) (hv : FlsAt w v l) (hl : l.length ≤ 9223372036854775807) (hx : ∀ f ∈ l, f.name.length ≤ 9223372036854775807 ∧ f.body.length ≤ 9223372036854775807) :
    Calls Try.prog 21 #[v, .int .i64 1048576] w fun e w' => e = .returned (.int .i64 (szS l 1048576)) ∧ Below w.heap.size w w' := by
  obtain ⟨R, hR⟩ : ∃ R, szS l 1048576 = R := ⟨_, rfl⟩
  rw [hR]
  unfold szS at hR
  obtain ⟨p, cap, rfl⟩ := hv.slice
  have HV := Lib.hid hv
  have HX := Lib.hid hx
  clear hv hx
  have e1 : IntKind.i64.wrap ((1048576 : Int) - (l.length : Int)) = (1048576 : Int) - (l.length : Int) := by rw [IntKind.wrap_i64]; omega
  by_cases ha : (1048576 : Int) - (l.length : Int) < 0
  · rw [if_pos ha] at hR
    subst hR
    have g1 : decide ((1048576 : Int) - (l.length : Int) < 0) = true := by simpa using ha
    go_enter Try.func21, Try.ntmps21
    go_wp2_with fail
    go_ret
    exact ⟨rfl, Below.refl _ _⟩
  · rw [if_neg ha] at hR
    have HR : Hid (szL (l.drop 0) ((1048576 : Int) - (l.length : Int)) = R) := Lib.hid (by rw [List.drop_zero]; exact hR)
    have g1 : decide ((1048576 : Int) - (l.length : Int) < 0) = false := by simpa using ha
    have hll : l.length ≤ 1048576 := by omega
    clear hR ha
    go_enter Try.func21, Try.ntmps21
    go_wp2_with fail
    go_loopw [1, 5] (fun m i wr => ∃ (k : Nat) (left : Int), k ≤ l.length ∧ i = .int .i64 k ∧ m = .int .i64 left ∧ 0 ≤ left ∧ left ≤ 1048576 ∧ Hid (szL (l.drop k) left = R) ∧ Hid (Below w.heap.size w wr)) (fun _ i _ => l.length - (intOf i).toNat)
    case atStart => exact ⟨0, (1048576 : Int) - (l.length : Int), Nat.zero_le _, rfl, rfl, by omega, by omega, HR, Lib.hid (Below.refl _ _)⟩
    case round =>
      obtain ⟨k, left, hk, rfl, rfl, hl0, hl1, HP, HB⟩ := hrel
      by_cases hlt : k < l.length
      · have g2 : decide ((k : Int) < (l.length : Int)) = true := by simp; omega
        have i1 : (0 : Int) ≤ (k : Int) := by omega
        have i2 : (k : Int) < (l.length : Int) := by omega
        obtain ⟨g, off, rfl, hg, x1, x2⟩ := fls_cells HV.out rfl hlt
        rw [← HB.out.cell (p := ⟨g, off + k * 2, none⟩) hg] at x1
        rw [← HB.out.cell (p := ⟨g, off + k * 2 + 1, none⟩) hg] at x2
        obtain ⟨hx1, hx2⟩ := HX.out _ (List.getElem_mem hlt)
        have SZ := Lib.hid (fun w => szField_any l[k] left w (by omega) hl1 hx2 hx1)
        have hP := HP.out
        rw [szL_drop _ _ _ hlt] at hP
        have hle := szF_le l[k] left
        generalize mkB l[k].name = nm at x1 SZ
        generalize mkB l[k].body = bd at x2 SZ
        generalize szF l[k] left = q at SZ hP hle
        clear hx1 hx2 HP
        by_cases hq : q < 0
        · rw [if_pos hq] at hP
          subst hP
          have g3 : decide (q < 0) = true := by simpa using hq
          go_wp2_with fail
          refine (SZ.out _).mono ?_
          rintro e w1 ⟨rfl, hB1⟩
          have B1 := Lib.hid (HB.out.trans (hB1.mono HB.out.size))
          clear hB1
          go_wp2_with fail
          go_ret
          exact ⟨rfl, B1.out⟩
        · rw [if_neg hq] at hP
          have HP := Lib.hid hP
          have g3 : decide (q < 0) = false := by simpa using hq
          have hq1 : q ≤ 1048576 := by have := hle (by omega); omega
          clear hP hle
          go_wp2_with fail
          refine (SZ.out _).mono ?_
          rintro e w1 ⟨rfl, hB1⟩
          have B1 := Lib.hid (HB.out.trans (hB1.mono HB.out.size))
          clear hB1
          go_wp2_with fail
          go_roundw
          case rel => exact ⟨k + 1, q, by omega, by go_num, rfl, by omega, hq1, HP, B1⟩
          case measure => simp [intOf]; omega
      · obtain rfl : k = l.length := by omega
        have g2 : decide ((l.length : Int) < (l.length : Int)) = false := by simp
        have hP := HP.out
        rw [List.drop_length] at hP
        obtain rfl : left = R := hP
        clear HP HR
        go_wp2_with fail
        go_ret
        exact ⟨rfl, HB.out⟩
end Go.Proofs.Ytfgfbdfijpecfaa
