/-
  Addr that came in: the walks of the laws' szAddr, szAddrS, toAddr.
-/
import Derived.Test.YtplaomiegkaaiaaDoorAdA
import Derived.Test.YtplaomiegkaaiaaDoorRowG
namespace Go.Proofs.YtplaomiegkaaiaaDoor
set_option linter.unusedVariables false
open Go.RowKit

def szAd (f : Ad) (left : Int) : Int := if left - f.name.length < 0 then -1 else if left - f.name.length - f.box.length < 0 then -1 else if left - f.name.length - f.box.length - f.host.length < 0 then -1 else left - f.name.length - f.box.length - f.host.length
def szAdL : List Ad → Int → Int
  | [], left => left
  | f :: r, left => if szAd f left < 0 then -1 else szAdL r (szAd f left)
def szAdS (l : List Ad) (left : Int) : Int := if left - l.length < 0 then -1 else szAdL l (left - l.length)
theorem szAd_ok {f : Ad} {left : Int} (h : 0 ≤ szAd f left) : szAd f left = left - f.name.length - f.box.length - f.host.length := by
  unfold szAd at h ⊢
  split at h
  · omega
  rw [if_neg (by assumption)]
  split at h
  · omega
  rw [if_neg (by assumption)]
  split at h
  · omega
  rw [if_neg (by assumption)]
/-- How long all is together. -/
def totAd (f : Ad) : Nat := f.name.length + f.box.length + f.host.length
def totAdL (l : List Ad) : Nat := (l.map totAd).foldr (· + ·) 0
theorem szAdL_ok : ∀ (l : List Ad) (left : Int), 0 ≤ szAdL l left → (totAdL l : Int) ≤ left
  | [], left, h => by simpa [totAdL, szAdL] using h
  | f :: r, left, h => by
    rw [szAdL] at h
    split at h
    · omega
    · have h1 := szAd_ok (f := f) (left := left) (by omega)
      have h2 := szAdL_ok r _ h
      have h3 : totAdL (f :: r) = totAd f + totAdL r := rfl
      rw [h3]
      unfold totAd
      omega
theorem szAdS_ok {l : List Ad} {left : Int} (h : 0 ≤ szAdS l left) : (l.length : Int) ≤ left ∧ (totAdL l : Int) ≤ left := by
  unfold szAdS at h
  split at h
  · omega
  · have := szAdL_ok l _ h
    omega

set_option maxRecDepth 100000 in
set_option maxHeartbeats 1000000 in
theorem szAd_any (f : Ad) (left : Int) (w : World) (hl0 : 0 ≤ left) (hl1 : left ≤ 1048576) (h0 : f.name.length ≤ 9223372036854775807) (h1 : f.box.length ≤ 9223372036854775807) (h2 : f.host.length ≤ 9223372036854775807) :
    Calls Tryd.prog 57 #[.agg #[.string (mkB f.name), .string (mkB f.box), .string (mkB f.host)], .int .i64 left] w fun e w' => e = .returned (.int .i64 (szAd f left)) ∧ Below w.heap.size w w' := by
  obtain ⟨R, hR⟩ : ∃ R, szAd f left = R := ⟨_, rfl⟩
  rw [hR]
  unfold szAd at hR
  have n0 := mkB_size f.name
  rw [← n0] at hR h0
  clear n0
  generalize mkB f.name = s0 at hR h0 ⊢
  have n1 := mkB_size f.box
  rw [← n1] at hR h1
  clear n1
  generalize mkB f.box = s1 at hR h1 ⊢
  have n2 := mkB_size f.host
  rw [← n2] at hR h2
  clear n2
  generalize mkB f.host = s2 at hR h2 ⊢
  have e0 : IntKind.i64.wrap (left - (s0.size : Int)) = left - (s0.size : Int) := by rw [IntKind.wrap_i64]; omega
  by_cases a0 : left - (s0.size : Int) < 0
  · rw [if_pos a0] at hR
    subst hR
    have g0 : decide (left - (s0.size : Int) < 0) = true := by simpa using a0
    go_enter Tryd.func57, Tryd.ntmps57
    go_wp2_with fail
    go_ret
    exact ⟨rfl, (Below.refl _ _).alloc (Nat.le_refl _) _⟩
  · rw [if_neg a0] at hR
    have g0 : decide (left - (s0.size : Int) < 0) = false := by simpa using a0
    have e1 : IntKind.i64.wrap (left - (s0.size : Int) - (s1.size : Int)) = left - (s0.size : Int) - (s1.size : Int) := by rw [IntKind.wrap_i64]; omega
    by_cases a1 : left - (s0.size : Int) - (s1.size : Int) < 0
    · rw [if_pos a1] at hR
      subst hR
      have g1 : decide (left - (s0.size : Int) - (s1.size : Int) < 0) = true := by simpa using a1
      go_enter Tryd.func57, Tryd.ntmps57
      go_wp2_with fail
      go_ret
      exact ⟨rfl, (Below.refl _ _).alloc (Nat.le_refl _) _⟩
    · rw [if_neg a1] at hR
      have g1 : decide (left - (s0.size : Int) - (s1.size : Int) < 0) = false := by simpa using a1
      have e2 : IntKind.i64.wrap (left - (s0.size : Int) - (s1.size : Int) - (s2.size : Int)) = left - (s0.size : Int) - (s1.size : Int) - (s2.size : Int) := by rw [IntKind.wrap_i64]; omega
      by_cases a2 : left - (s0.size : Int) - (s1.size : Int) - (s2.size : Int) < 0
      · rw [if_pos a2] at hR
        subst hR
        have g2 : decide (left - (s0.size : Int) - (s1.size : Int) - (s2.size : Int) < 0) = true := by simpa using a2
        go_enter Tryd.func57, Tryd.ntmps57
        go_wp2_with fail
        go_ret
        exact ⟨rfl, (Below.refl _ _).alloc (Nat.le_refl _) _⟩
      · rw [if_neg a2] at hR
        have g2 : decide (left - (s0.size : Int) - (s1.size : Int) - (s2.size : Int) < 0) = false := by simpa using a2
        have HR := Lib.hid hR
        clear hR
        go_enter Tryd.func57, Tryd.ntmps57
        go_wp2_with fail
        go_ret
        exact ⟨by rw [HR.out] <;> rfl, (Below.refl _ _).alloc (Nat.le_refl _) _⟩

theorem newAd (w : World) (s0 s1 s2 : Value) (T : TypeId) : (w.alloc (.cells #[s0, s1, s2] T)).heap[w.heap.size]? = some (.cells #[s0, s1, s2] T (0, 0)) := by
  show (w.heap.push _)[w.heap.size]? = some _
  simp
theorem cellsAd {W : World} {b : Nat} {T : TypeId} {s0 s1 s2 : Value} {fr : Nat × Nat} (h : W.heap[b]? = some (.cells #[s0, s1, s2] T fr)) : W.cell? ⟨b, 0, none⟩ = some s0 ∧ W.cell? ⟨b, 1, none⟩ = some s1 ∧ W.cell? ⟨b, 2, none⟩ = some s2 := by
  refine ⟨?_, ?_, ?_⟩ <;> simp [World.cell?, h]
set_option maxRecDepth 100000 in
set_option maxHeartbeats 400000 in
theorem toAd_any (s0 s1 s2 : ByteArray) (w : World) :
    Calls Tryd.prog 58 #[.agg #[.string s0, .string s1, .string s2]] w fun e w' => e = .returned (.agg #[.string s0, .string s1, .string s2]) ∧ Below w.heap.size w w' := by
  go_enter Tryd.func58, Tryd.ntmps58
  go_wp2_with fail
  have h1 := newAd (w.alloc (.cells #[.string s0, .string s1, .string s2] 62)) (.string s0) (.string s1) (.string s2) 29
  rw [World.size_alloc] at h1
  have h2 : (((w.alloc (.cells #[.string s0, .string s1, .string s2] 62)).alloc (.cells #[.string s0, .string s1, .string s2] 29)).alloc (.cells #[.string s0, .string s1, .string s2] 29)).heap[w.heap.size + 1]? = _ := (Below.heap_alloc _ _ _ (by simp)).trans h1
  have q := cellsAd h2
  refine bodyPost_ret (v := .agg #[.string s0, .string s1, .string s2]) (by simp [results, Tryd.results58, go_sem, q]) rfl ⟨rfl, (((Below.refl _ _).alloc (Nat.le_refl _) _).alloc (by simp) _).alloc (by simp; omega) _⟩

theorem ads_cells {w : World} {p : Option Addr} {n cap k : Nat} {l : List Ad} (h : AdsAt w (.slice p n cap) l) (hn : n = l.length) (hk : k < l.length) :
    ∃ g off, p = some ⟨g, off, none⟩ ∧ g < w.heap.size ∧ w.cell? ⟨g, off + k * 3, none⟩ = some (.string (mkB l[k].name)) ∧ w.cell? ⟨g, off + k * 3 + 1, none⟩ = some (.string (mkB l[k].box)) ∧ w.cell? ⟨g, off + k * 3 + 2, none⟩ = some (.string (mkB l[k].host)) := by
  rcases h with ⟨rfl, _⟩ | ⟨g, off, c2, h1, h2, h3⟩
  · simp at hk
  · injection h1 with e1 e2 e3
    exact ⟨g, off, e1, h2, h3 k hk⟩
theorem szAdL_drop (l : List Ad) (k : Nat) (left : Int) (h : k < l.length) : szAdL (l.drop k) left = if szAd l[k] left < 0 then -1 else szAdL (l.drop (k + 1)) (szAd l[k] left) := by
  rw [List.drop_eq_getElem_cons h, szAdL]
theorem szAd_le (f : Ad) (left : Int) (h : 0 ≤ szAd f left) : szAd f left ≤ left := by
  rw [szAd_ok h]; omega

set_option maxRecDepth 100000 in
set_option maxHeartbeats 1000000 in
theorem szAddrS_any (v : Value) (l : List Ad) (w : World) (hv : AdsAt w v l) (hl : l.length ≤ 9223372036854775807) (hx : ∀ f ∈ l, f.name.length ≤ 9223372036854775807 ∧ f.box.length ≤ 9223372036854775807 ∧ f.host.length ≤ 9223372036854775807) :
    Calls Tryd.prog 34 #[v, .int .i64 1048576] w fun e w' => e = .returned (.int .i64 (szAdS l 1048576)) ∧ Below w.heap.size w w' := by
  obtain ⟨R, hR⟩ : ∃ R, szAdS l 1048576 = R := ⟨_, rfl⟩
  rw [hR]
  unfold szAdS at hR
  obtain ⟨p, cap, rfl⟩ := hv.slice
  have HV := Lib.hid hv
  have HX := Lib.hid hx
  clear hv hx
  have e1 : IntKind.i64.wrap ((1048576 : Int) - (l.length : Int)) = (1048576 : Int) - (l.length : Int) := by rw [IntKind.wrap_i64]; omega
  by_cases ha : (1048576 : Int) - (l.length : Int) < 0
  · rw [if_pos ha] at hR
    subst hR
    have g1 : decide ((1048576 : Int) - (l.length : Int) < 0) = true := by simpa using ha
    go_enter Tryd.func34, Tryd.ntmps34
    go_wp2_with fail
    go_ret
    exact ⟨rfl, Below.refl _ _⟩
  · rw [if_neg ha] at hR
    have HR : Hid (szAdL (l.drop 0) ((1048576 : Int) - (l.length : Int)) = R) := Lib.hid (by rw [List.drop_zero]; exact hR)
    have g1 : decide ((1048576 : Int) - (l.length : Int) < 0) = false := by simpa using ha
    have hll : l.length ≤ 1048576 := by omega
    clear hR ha
    go_enter Tryd.func34, Tryd.ntmps34
    go_wp2_with fail
    go_loopw [1, 5] (fun m i wr => ∃ (k : Nat) (left : Int), k ≤ l.length ∧ i = .int .i64 k ∧ m = .int .i64 left ∧ 0 ≤ left ∧ left ≤ 1048576 ∧ Hid (szAdL (l.drop k) left = R) ∧ Hid (Below w.heap.size w wr)) (fun _ i _ => l.length - (intOf i).toNat)
    case atStart => exact ⟨0, (1048576 : Int) - (l.length : Int), Nat.zero_le _, rfl, rfl, by omega, by omega, HR, Lib.hid (Below.refl _ _)⟩
    case round =>
      obtain ⟨k, left, hk, rfl, rfl, hl0, hl1, HP, HB⟩ := hrel
      by_cases hlt : k < l.length
      · have g2 : decide ((k : Int) < (l.length : Int)) = true := by simp; omega
        have i1 : (0 : Int) ≤ (k : Int) := by omega
        have i2 : (k : Int) < (l.length : Int) := by omega
        obtain ⟨g, off, rfl, hg, x1, x2, x3⟩ := ads_cells HV.out rfl hlt
        rw [← HB.out.cell (p := ⟨g, off + k * 3, none⟩) hg] at x1
        rw [← HB.out.cell (p := ⟨g, off + k * 3 + 1, none⟩) hg] at x2
        rw [← HB.out.cell (p := ⟨g, off + k * 3 + 2, none⟩) hg] at x3
        obtain ⟨q0, q1, q2⟩ := HX.out _ (List.getElem_mem hlt)
        have SZ := Lib.hid (fun w => szAd_any l[k] left w hl0 hl1 q0 q1 q2)
        have hP := HP.out
        rw [szAdL_drop _ _ _ hlt] at hP
        have hle := szAd_le l[k] left
        generalize mkB l[k].name = s0 at x1 SZ
        generalize mkB l[k].box = s1 at x2 SZ
        generalize mkB l[k].host = s2 at x3 SZ
        generalize szAd l[k] left = q at SZ hP hle
        clear q0 q1 q2 HP
        by_cases hq : q < 0
        · rw [if_pos hq] at hP
          subst hP
          have g3 : decide (q < 0) = true := by simpa using hq
          go_wp2_with fail
          refine (SZ.out _).mono ?_
          rintro e w1 ⟨rfl, hB1⟩
          have B1 := Lib.hid (HB.out.trans (hB1.mono HB.out.size))
          clear hB1
          go_wp2_with fail
          go_ret
          exact ⟨rfl, B1.out⟩
        · rw [if_neg hq] at hP
          have HP := Lib.hid hP
          have g3 : decide (q < 0) = false := by simpa using hq
          have hq1 : q ≤ 1048576 := by have := hle (by omega); omega
          clear hP hle
          go_wp2_with fail
          refine (SZ.out _).mono ?_
          rintro e w1 ⟨rfl, hB1⟩
          have B1 := Lib.hid (HB.out.trans (hB1.mono HB.out.size))
          clear hB1
          go_wp2_with fail
          go_roundw
          case rel => exact ⟨k + 1, q, by omega, by go_num, rfl, by omega, hq1, HP, B1⟩
          case measure => simp [intOf]; omega
      · obtain rfl : k = l.length := by omega
        have g2 : decide ((l.length : Int) < (l.length : Int)) = false := by simp
        have hP := HP.out
        rw [List.drop_length] at hP
        obtain rfl : left = R := hP
        clear HP HR
        go_wp2_with fail
        go_ret
        exact ⟨rfl, HB.out⟩
end Go.Proofs.YtplaomiegkaaiaaDoor
