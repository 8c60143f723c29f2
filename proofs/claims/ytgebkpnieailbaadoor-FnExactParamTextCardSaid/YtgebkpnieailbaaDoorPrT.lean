/-
  Param that came in: the walks of the laws' szParam, szParamS, toParam.
-/
import Derived.Test.YtgebkpnieailbaaDoorPrA
import Derived.Test.YtgebkpnieailbaaDoorRowG
namespace Go.Proofs.YtgebkpnieailbaaDoor
set_option linter.unusedVariables false
open Go.RowKit

def szPr (f : Pr) (left : Int) : Int := if left - f.name.length < 0 then -1 else if left - f.name.length - f.value.length < 0 then -1 else left - f.name.length - f.value.length
def szPrL : List Pr → Int → Int
  | [], left => left
  | f :: r, left => if szPr f left < 0 then -1 else szPrL r (szPr f left)
def szPrS (l : List Pr) (left : Int) : Int := if left - l.length < 0 then -1 else szPrL l (left - l.length)
theorem szPr_ok {f : Pr} {left : Int} (h : 0 ≤ szPr f left) : szPr f left = left - f.name.length - f.value.length := by
  unfold szPr at h ⊢
  split at h
  · omega
  rw [if_neg (by assumption)]
  split at h
  · omega
  rw [if_neg (by assumption)]
/-- How long all is together. -/
def totPr (f : Pr) : Nat := f.name.length + f.value.length
def totPrL (l : List Pr) : Nat := (l.map totPr).foldr (· + ·) 0
theorem szPrL_ok : ∀ (l : List Pr) (left : Int), 0 ≤ szPrL l left → (totPrL l : Int) ≤ left
  | [], left, h => by simpa [totPrL, szPrL] using h
  | f :: r, left, h => by
    rw [szPrL] at h
    split at h
    · omega
    · have h1 := szPr_ok (f := f) (left := left) (by omega)
      have h2 := szPrL_ok r _ h
      have h3 : totPrL (f :: r) = totPr f + totPrL r := rfl
      rw [h3]
      unfold totPr
      omega
theorem szPrS_ok {l : List Pr} {left : Int} (h : 0 ≤ szPrS l left) : (l.length : Int) ≤ left ∧ (totPrL l : Int) ≤ left := by
  unfold szPrS at h
  split at h
  · omega
  · have := szPrL_ok l _ h
    omega

set_option maxRecDepth 100000 in
set_option maxHeartbeats 1000000 in
theorem szPr_any (f : Pr) (left : Int) (w : World) (hl0 : 0 ≤ left) (hl1 : left ≤ 1048576) (h0 : f.name.length ≤ 9223372036854775807) (h1 : f.value.length ≤ 9223372036854775807) :
    Calls Tryd.prog 9 #[.agg #[.string (mkB f.name), .string (mkB f.value)], .int .i64 left] w fun e w' => e = .returned (.int .i64 (szPr f left)) ∧ Below w.heap.size w w' := by
  obtain ⟨R, hR⟩ : ∃ R, szPr f left = R := ⟨_, rfl⟩
  rw [hR]
  unfold szPr at hR
  have n0 := mkB_size f.name
  rw [← n0] at hR h0
  clear n0
  generalize mkB f.name = s0 at hR h0 ⊢
  have n1 := mkB_size f.value
  rw [← n1] at hR h1
  clear n1
  generalize mkB f.value = s1 at hR h1 ⊢
  have e0 : IntKind.i64.wrap (left - (s0.size : Int)) = left - (s0.size : Int) := by rw [IntKind.wrap_i64]; omega
  by_cases a0 : left - (s0.size : Int) < 0
  · rw [if_pos a0] at hR
    subst hR
    have g0 : decide (left - (s0.size : Int) < 0) = true := by simpa using a0
    go_enter Tryd.func9, Tryd.ntmps9
    go_wp2_with fail
    go_ret
    exact ⟨rfl, (Below.refl _ _).alloc (Nat.le_refl _) _⟩
  · rw [if_neg a0] at hR
    have g0 : decide (left - (s0.size : Int) < 0) = false := by simpa using a0
    have e1 : IntKind.i64.wrap (left - (s0.size : Int) - (s1.size : Int)) = left - (s0.size : Int) - (s1.size : Int) := by rw [IntKind.wrap_i64]; omega
    by_cases a1 : left - (s0.size : Int) - (s1.size : Int) < 0
    · rw [if_pos a1] at hR
      subst hR
      have g1 : decide (left - (s0.size : Int) - (s1.size : Int) < 0) = true := by simpa using a1
      go_enter Tryd.func9, Tryd.ntmps9
      go_wp2_with fail
      go_ret
      exact ⟨rfl, (Below.refl _ _).alloc (Nat.le_refl _) _⟩
    · rw [if_neg a1] at hR
      have g1 : decide (left - (s0.size : Int) - (s1.size : Int) < 0) = false := by simpa using a1
      have HR := Lib.hid hR
      clear hR
      go_enter Tryd.func9, Tryd.ntmps9
      go_wp2_with fail
      go_ret
      exact ⟨by rw [HR.out] <;> rfl, (Below.refl _ _).alloc (Nat.le_refl _) _⟩

theorem newPr (w : World) (s0 s1 : Value) (T : TypeId) : (w.alloc (.cells #[s0, s1] T)).heap[w.heap.size]? = some (.cells #[s0, s1] T (0, 0)) := by
  show (w.heap.push _)[w.heap.size]? = some _
  simp
theorem cellsPr {W : World} {b : Nat} {T : TypeId} {s0 s1 : Value} {fr : Nat × Nat} (h : W.heap[b]? = some (.cells #[s0, s1] T fr)) : W.cell? ⟨b, 0, none⟩ = some s0 ∧ W.cell? ⟨b, 1, none⟩ = some s1 := by
  refine ⟨?_, ?_⟩ <;> simp [World.cell?, h]
set_option maxRecDepth 100000 in
set_option maxHeartbeats 400000 in
theorem toPr_any (s0 s1 : ByteArray) (w : World) :
    Calls Tryd.prog 11 #[.agg #[.string s0, .string s1]] w fun e w' => e = .returned (.agg #[.string s0, .string s1]) ∧ Below w.heap.size w w' := by
  go_enter Tryd.func11, Tryd.ntmps11
  go_wp2_with fail
  have h1 := newPr (w.alloc (.cells #[.string s0, .string s1] 31)) (.string s0) (.string s1) 33
  rw [World.size_alloc] at h1
  have h2 : (((w.alloc (.cells #[.string s0, .string s1] 31)).alloc (.cells #[.string s0, .string s1] 33)).alloc (.cells #[.string s0, .string s1] 33)).heap[w.heap.size + 1]? = _ := (Below.heap_alloc _ _ _ (by simp)).trans h1
  have q := cellsPr h2
  refine bodyPost_ret (v := .agg #[.string s0, .string s1]) (by simp [results, Tryd.results11, go_sem, q]) rfl ⟨rfl, (((Below.refl _ _).alloc (Nat.le_refl _) _).alloc (by simp) _).alloc (by simp; omega) _⟩

theorem prs_cells {w : World} {p : Option Addr} {n cap k : Nat} {l : List Pr} (h : PrsAt w (.slice p n cap) l) (hn : n = l.length) (hk : k < l.length) :
    ∃ g off, p = some ⟨g, off, none⟩ ∧ g < w.heap.size ∧ w.cell? ⟨g, off + k * 2, none⟩ = some (.string (mkB l[k].name)) ∧ w.cell? ⟨g, off + k * 2 + 1, none⟩ = some (.string (mkB l[k].value)) := by
  rcases h with ⟨rfl, _⟩ | ⟨g, off, c2, h1, h2, h3⟩
  · simp at hk
  · injection h1 with e1 e2 e3
    exact ⟨g, off, e1, h2, h3 k hk⟩
theorem szPrL_drop (l : List Pr) (k : Nat) (left : Int) (h : k < l.length) : szPrL (l.drop k) left = if szPr l[k] left < 0 then -1 else szPrL (l.drop (k + 1)) (szPr l[k] left) := by
  rw [List.drop_eq_getElem_cons h, szPrL]
theorem szPr_le (f : Pr) (left : Int) (h : 0 ≤ szPr f left) : szPr f left ≤ left := by
  rw [szPr_ok h]; omega

set_option maxRecDepth 100000 in
set_option maxHeartbeats 1000000 in
theorem szParamS_at (v : Value) (l : List Pr) (L0 : Int) (w : World) (hL0 : 0 ≤ L0) (hL1 : L0 ≤ 1048576) (hv : PrsAt w v l) (hl : l.length ≤ 9223372036854775807) (hx : ∀ f ∈ l, f.name.length ≤ 9223372036854775807 ∧ f.value.length ≤ 9223372036854775807) :
    Calls Tryd.prog 4 #[v, .int .i64 L0] w fun e w' => e = .returned (.int .i64 (szPrS l L0)) ∧ Below w.heap.size w w' := by
  obtain ⟨R, hR⟩ : ∃ R, szPrS l L0 = R := ⟨_, rfl⟩
  rw [hR]
  unfold szPrS at hR
  obtain ⟨p, cap, rfl⟩ := hv.slice
  have HV := Lib.hid hv
  have HX := Lib.hid hx
  clear hv hx
  have e1 : IntKind.i64.wrap (L0 - (l.length : Int)) = L0 - (l.length : Int) := by rw [IntKind.wrap_i64]; omega
  by_cases ha : L0 - (l.length : Int) < 0
  · rw [if_pos ha] at hR
    subst hR
    have g1 : decide (L0 - (l.length : Int) < 0) = true := by simpa using ha
    go_enter Tryd.func4, Tryd.ntmps4
    go_wp2_with fail
    go_ret
    exact ⟨rfl, Below.refl _ _⟩
  · rw [if_neg ha] at hR
    have HR : Hid (szPrL (l.drop 0) (L0 - (l.length : Int)) = R) := Lib.hid (by rw [List.drop_zero]; exact hR)
    have g1 : decide (L0 - (l.length : Int) < 0) = false := by simpa using ha
    have hll : l.length ≤ 1048576 := by omega
    have hll2 : (l.length : Int) ≤ L0 := by omega
    clear hR ha
    go_enter Tryd.func4, Tryd.ntmps4
    go_wp2_with fail
    go_loopw [1, 5] (fun m i wr => ∃ (k : Nat) (left : Int), k ≤ l.length ∧ i = .int .i64 k ∧ m = .int .i64 left ∧ 0 ≤ left ∧ left ≤ 1048576 ∧ Hid (szPrL (l.drop k) left = R) ∧ Hid (Below w.heap.size w wr)) (fun _ i _ => l.length - (intOf i).toNat)
    case atStart => exact ⟨0, L0 - (l.length : Int), Nat.zero_le _, rfl, rfl, by omega, by omega, HR, Lib.hid (Below.refl _ _)⟩
    case round =>
      obtain ⟨k, left, hk, rfl, rfl, hl0, hl1, HP, HB⟩ := hrel
      by_cases hlt : k < l.length
      · have g2 : decide ((k : Int) < (l.length : Int)) = true := by simp; omega
        have i1 : (0 : Int) ≤ (k : Int) := by omega
        have i2 : (k : Int) < (l.length : Int) := by omega
        obtain ⟨g, off, rfl, hg, x1, x2⟩ := prs_cells HV.out rfl hlt
        rw [← HB.out.cell (p := ⟨g, off + k * 2, none⟩) hg] at x1
        rw [← HB.out.cell (p := ⟨g, off + k * 2 + 1, none⟩) hg] at x2
        obtain ⟨q0, q1⟩ := HX.out _ (List.getElem_mem hlt)
        have SZ := Lib.hid (fun w => szPr_any l[k] left w hl0 hl1 q0 q1)
        have hP := HP.out
        rw [szPrL_drop _ _ _ hlt] at hP
        have hle := szPr_le l[k] left
        generalize mkB l[k].name = s0 at x1 SZ
        generalize mkB l[k].value = s1 at x2 SZ
        generalize szPr l[k] left = q at SZ hP hle
        clear q0 q1 HP
        by_cases hq : q < 0
        · rw [if_pos hq] at hP
          subst hP
          have g3 : decide (q < 0) = true := by simpa using hq
          go_wp2_with fail
          refine (SZ.out _).mono ?_
          rintro e w1 ⟨rfl, hB1⟩
          have B1 := Lib.hid (HB.out.trans (hB1.mono HB.out.size))
          clear hB1
          go_wp2_with fail
          go_ret
          exact ⟨rfl, B1.out⟩
        · rw [if_neg hq] at hP
          have HP := Lib.hid hP
          have g3 : decide (q < 0) = false := by simpa using hq
          have hq1 : q ≤ 1048576 := by have := hle (by omega); omega
          clear hP hle
          go_wp2_with fail
          refine (SZ.out _).mono ?_
          rintro e w1 ⟨rfl, hB1⟩
          have B1 := Lib.hid (HB.out.trans (hB1.mono HB.out.size))
          clear hB1
          go_wp2_with fail
          go_roundw
          case rel => exact ⟨k + 1, q, by omega, by go_num, rfl, by omega, hq1, HP, B1⟩
          case measure => simp [intOf]; omega
      · obtain rfl : k = l.length := by omega
        have g2 : decide ((l.length : Int) < (l.length : Int)) = false := by simp
        have hP := HP.out
        rw [List.drop_length] at hP
        obtain rfl : left = R := hP
        clear HP HR
        go_wp2_with fail
        go_ret
        exact ⟨rfl, HB.out⟩
theorem szParamS_any (v : Value) (l : List Pr) (w : World) (hv : PrsAt w v l) (hl : l.length ≤ 9223372036854775807) (hx : ∀ f ∈ l, f.name.length ≤ 9223372036854775807 ∧ f.value.length ≤ 9223372036854775807) :
    Calls Tryd.prog 4 #[v, .int .i64 1048576] w fun e w' => e = .returned (.int .i64 (szPrS l 1048576)) ∧ Below w.heap.size w w' :=
  szParamS_at v l 1048576 w (by decide) (by decide) hv hl hx
end Go.Proofs.YtgebkpnieailbaaDoor
