/-
  The draws of letters: l07Leaf, l07Raw.
-/
import Derived.Test.YtjleadlecdcdeaaDrawHd
import Derived.Test.YtjleadlecdcdeaaOnce
namespace Go.Proofs.Ytjleadlecdcdeaa
set_option linter.unusedVariables false
open Go.RowKit

set_option maxRecDepth 100000 in
set_option maxHeartbeats 1000000 in
theorem leaf7_any {K : Code} {w0 w : World} {g i : Nat} {h : Int} (c : Cur K w0 w g i h) :
    Calls Try.prog 69 #[.pointer (some ⟨g, 0, none⟩)] w (DrawnStr K w0 g 202 w) := by
  have C := Lib.hid c
  clear c
  go_enter Try.func69, Try.ntmps69
  go_wp2_with fail
  refine (pick_lit C.out 100 (by decide) (by rfl) (by decide) (by decide)).mono ?_
  rintro e w1 ⟨a, i1, h1, rfl, ha, hc1, hg1⟩
  have C1 := Lib.hid hc1
  have G1 := Lib.hid hg1
  have q1 : ¬ 9223372036854775807 < a.size + 2 := by omega
  clear hc1 hg1
  go_wp2_with fail
  refine (pick_lit C1.out 100 (by decide) (by rfl) (by decide) (by decide)).mono ?_
  rintro e w2 ⟨b, i2, h2, rfl, hb, hc2, hg2⟩
  have C2 := Lib.hid hc2
  have G2 := Lib.hid (grownBy_trans G1.out hg2)
  have q2 : ¬ 9223372036854775807 < a.size + 2 + b.size := by omega
  clear hc2 hg2
  go_wp2_with fail
  go_ret
  refine ⟨_, i2, h2, rfl, ?_, C2.out, G2.out⟩
  rw [ByteArray.size_append, ByteArray.size_append]
  have : (⟨#[13, 10]⟩ : ByteArray).size = 2 := rfl
  omega

theorem pick_list {K : Code} {w0 w : World} {g i : Nat} {h : Int} (c : Cur K w0 w g i h) (m : Nat) (L : List ByteArray) {cs : Array Value} {n cap : Nat} (hcs : cs.toList = L.map Value.string) (hn : n = L.length) (h0 : 0 < n) (h9 : n ≤ 1000) (hm : ∀ x ∈ L, x.size ≤ m) :
    Calls Try.prog 47 #[.pointer (some ⟨g, 0, none⟩), .slice (some ⟨w.heap.size, 0, none⟩) n cap] (w.alloc (.cells cs 9)) (DrawnStr K w0 g m w) := by
  have hv := valsAt_new w (L.map Value.string) 9 n cap (by simp [hn])
  rw [← hcs] at hv
  simp only [Array.toArray_toList] at hv
  rw [hcs] at hv
  have hcl := c.lt
  refine (pick_any (c.later ((Below.refl _ _).alloc (Nat.le_refl _) _)) _ L hv (by simp [Value.ownBlock]; omega) (by omega) (by omega)).mono ?_
  rintro e w' ⟨s, i', h', e1, e2, e3, e4⟩
  exact ⟨s, i', h', e1, hm s e2, e3, grownBy_trans (World.grownBy_alloc _ _ _) e4⟩

/-- How long a letter so deep may be. -/
def rawB : Nat → Nat
  | 0 => 800
  | d + 1 => 3 * (rawB d + 60) + 1200
theorem rawB_le : ∀ d, d ≤ 4 → 800 ≤ rawB d ∧ rawB d ≤ 1000000
  | 0, _ => by decide
  | 1, _ => by decide
  | 2, _ => by decide
  | 3, _ => by decide
  | 4, _ => by decide

set_option maxRecDepth 100000 in
set_option maxHeartbeats 4000000 in
theorem raw7_any : ∀ (d : Nat), d ≤ 4 → ∀ {K : Code} {w0 w : World} {g i : Nat} {h : Int} (c : Cur K w0 w g i h),
    Calls Try.prog 37 #[.pointer (some ⟨g, 0, none⟩), .int .i64 (d : Int)] w (DrawnStr K w0 g (rawB d) w) := by
  intro d
  induction d with
  | zero =>
    intro hd K w0 w g i h c
    have C := Lib.hid c
    clear c
    go_enter Try.func37, Try.ntmps37
    go_wp2_with fail
    refine (head5_any C.out).mono ?_
    rintro e w1 ⟨s, i1, h1, rfl, hs, hc1, hg1⟩
    have C1 := Lib.hid hc1
    have G1 := Lib.hid hg1
    clear hc1 hg1
    go_wp2_with fail
    refine (leaf7_any C1.out).mono ?_
    rintro e w2 ⟨t, i2, h2, rfl, ht, hc2, hg2⟩
    have C2 := Lib.hid hc2
    have G2 := Lib.hid (grownBy_trans G1.out hg2)
    have q1 : ¬ 9223372036854775807 < s.size + t.size := by omega
    clear hc2 hg2
    go_wp2_with fail
    go_ret
    refine ⟨_, i2, h2, rfl, ?_, C2.out, G2.out⟩
    rw [ByteArray.size_append]
    show _ ≤ 800
    omega
  | succ d ih =>
    intro hd K w0 w g i h c
    have C := Lib.hid c
    have IH := Lib.hid (fun (w : World) (i : Nat) (h : Int) (c : Cur K w0 w g i h) => ih (by omega) c)
    have hB := rawB_le d (by omega)
    have hBB : rawB (d + 1) = 3 * (rawB d + 60) + 1200 := rfl
    obtain ⟨R, hR⟩ : ∃ R, rawB d = R := ⟨_, rfl⟩
    rw [hR] at hB hBB
    have HBB := Lib.hid hBB
    have HR := Lib.hid hR
    have e0 : (((d + 1 : Nat) : Int) == 0) = false := by rw [beq_eq_false_iff_ne]; omega
    have e1 : wrap64 (((d + 1 : Nat) : Int) - 1) = (d : Int) := by unfold wrap64; omega
    clear c ih hBB hR
    go_enter Try.func37, Try.ntmps37
    go_wp2_with fail
    refine (head5_any C.out).mono ?_
    rintro e w1 ⟨s, i1, h1, rfl, hs, hc1, hg1⟩
    have C1 := Lib.hid hc1
    have G1 := Lib.hid hg1
    clear hc1 hg1
    go_wp2_with fail
    refine (once_any C1.out 3 (by decide) (by decide)).mono ?_
    rintro e w2 ⟨b, i2, h2, rfl, hc2, hg2⟩
    have C2 := Lib.hid hc2
    have G2 := Lib.hid (grownBy_trans G1.out hg2)
    clear hc2 hg2
    cases b with
    | true =>
      go_wp2_with fail
      refine (leaf7_any C2.out).mono ?_
      rintro e w3 ⟨t, i3, h3, rfl, ht, hc3, hg3⟩
      have C3 := Lib.hid hc3
      have G3 := Lib.hid (grownBy_trans G2.out hg3)
      have q1 : ¬ 9223372036854775807 < s.size + t.size := by omega
      clear hc3 hg3
      go_wp2_with fail
      go_ret
      refine ⟨_, i3, h3, rfl, ?_, C3.out, G3.out⟩
      rw [ByteArray.size_append, HBB.out]
      omega
    | false =>
      go_wp2_with fail
      refine (once_any C2.out 4 (by decide) (by decide)).mono ?_
      rintro e w3 ⟨b, i3, h3, rfl, hc3, hg3⟩
      have C3 := Lib.hid hc3
      have G3 := Lib.hid (grownBy_trans G2.out hg3)
      clear hc3 hg3
      cases b with
      | true =>
        have q0 : ¬ 9223372036854775807 < s.size + 32 := by omega
        have e2 : (d : Int) + 1 - 1 = (d : Int) := by omega
        go_wp2_with fail
        refine (IH.out _ _ _ C3.out).mono ?_
        rintro e w4 ⟨t, i4, h4, rfl, ht, hc4, hg4⟩
        rw [HR.out] at ht
        have C4 := Lib.hid hc4
        have G4 := Lib.hid (grownBy_trans G3.out hg4)
        have q1 : ¬ 9223372036854775807 < s.size + 32 + t.size := by omega
        clear hc4 hg4
        go_wp2_with fail
        go_ret
        refine ⟨_, i4, h4, rfl, ?_, C4.out, G4.out⟩
        rw [ByteArray.size_append, ByteArray.size_append, HBB.out]
        have : (⟨#[67, 111, 110, 116, 101, 110, 116, 45, 84, 121, 112, 101, 58, 32, 109, 101, 115, 115, 97, 103, 101, 47, 114, 102, 99, 56, 50, 50, 13, 10, 13, 10]⟩ : ByteArray).size = 32 := rfl
        omega
      | false =>
        have q0 : ¬ 9223372036854775807 < s.size + 24 := by omega
        go_wp2_with fail
        refine (pick_lit C3.out 10 (by decide) (by rfl) (by decide) (by decide)).mono ?_
        rintro e w4 ⟨mk, i4, h4, rfl, hmk, hc4, hg4⟩
        have C4 := Lib.hid hc4
        have G4 := Lib.hid (grownBy_trans G3.out hg4)
        clear hc4 hg4
        go_wp2_with fail
        refine (pick_lit C4.out 20 (by decide) (by rfl) (by decide) (by decide)).mono ?_
        rintro e w5 ⟨t, i5, h5, rfl, ht, hc5, hg5⟩
        have C5 := Lib.hid hc5
        have G5 := Lib.hid (grownBy_trans G4.out hg5)
        have q1 : ¬ 9223372036854775807 < s.size + 24 + t.size := by omega
        have q2 : ¬ 9223372036854775807 < s.size + 24 + t.size + 12 := by omega
        have q3 : ¬ 9223372036854775807 < s.size + 24 + t.size + 12 + mk.size := by omega
        have q4 : ¬ 9223372036854775807 < s.size + 24 + t.size + 12 + mk.size + 5 := by omega
        clear hc5 hg5
        go_wp2_with fail
        refine (pick_lit C5.out 20 (by decide) (by rfl) (by decide) (by decide)).mono ?_
        rintro e w6 ⟨u, i6, h6, rfl, hu, hc6, hg6⟩
        have C6 := Lib.hid hc6
        have G6 := Lib.hid (grownBy_trans G5.out hg6)
        have q5 : ¬ 9223372036854775807 < s.size + 24 + t.size + 12 + mk.size + 5 + u.size := by omega
        clear hc6 hg6
        go_wp2_with fail
        refine (below_any C6.out 4 (by decide) (by decide)).mono ?_
        rintro e w7 ⟨n0, i7, h7, rfl, hn0, hn1, hc7, hg7, _⟩
        obtain ⟨n, rfl⟩ := Int.eq_ofNat_of_zero_le hn0
        have hn3 : n ≤ 3 := by omega
        have C7 := Lib.hid hc7
        have G7 := Lib.hid (grownBy_trans G6.out hg7)
        clear hc7 hg7 hn0 hn1
        obtain ⟨S0, hS0⟩ : ∃ S0, s ++ (⟨#[67, 111, 110, 116, 101, 110, 116, 45, 84, 121, 112, 101, 58, 32, 109, 117, 108, 116, 105, 112, 97, 114, 116, 47]⟩ : ByteArray) ++ t ++ (⟨#[59, 32, 98, 111, 117, 110, 100, 97, 114, 121, 61, 34]⟩ : ByteArray) ++ mk ++ (⟨#[34, 13, 10, 13, 10]⟩ : ByteArray) ++ u = S0 := ⟨_, rfl⟩
        have hS0z : S0.size ≤ 600 := by
          rw [← hS0]
          simp only [ByteArray.size_append]
          have x1 : (⟨#[67, 111, 110, 116, 101, 110, 116, 45, 84, 121, 112, 101, 58, 32, 109, 117, 108, 116, 105, 112, 97, 114, 116, 47]⟩ : ByteArray).size = 24 := rfl
          have x2 : (⟨#[59, 32, 98, 111, 117, 110, 100, 97, 114, 121, 61, 34]⟩ : ByteArray).size = 12 := rfl
          have x3 : (⟨#[34, 13, 10, 13, 10]⟩ : ByteArray).size = 5 := rfl
          omega
        rw [hS0]
        clear hS0
        dsimp only
        go_wp2_with fail
        go_loopw [7, 9] (fun v j wr => ∃ k : Nat, k ≤ n ∧ j = .int .i64 (k : Int) ∧ Hid (StrCur K w0 w g (600 + k * (R + 60)) v wr)) (fun _ j _ => n - (intOf j).toNat)
        case atStart => exact ⟨0, Nat.zero_le _, rfl, Lib.hid ⟨S0, i7, h7, rfl, by omega, C7.out, G7.out⟩⟩
        case round =>
          obtain ⟨k, hk, rfl, HS⟩ := hrel
          obtain ⟨S, j2, y2, rfl, hS, hd2, hk2⟩ := HS.out
          have D2 := Lib.hid hd2
          have F2 := Lib.hid hk2
          have hk3 : k ≤ 3 := by omega
          have hSb : S.size ≤ 5000000 := by
            have : k * (R + 60) ≤ 3 * (R + 60) := Nat.mul_le_mul_right _ hk3
            omega
          clear hd2 hk2 HS
          by_cases hlt : k < n
          · have g1 : decide ((k : Int) < (n : Int)) = true := by simp; omega
            have z1 : ¬ 9223372036854775807 < S.size + 2 := by omega
            have z2 : ¬ 9223372036854775807 < S.size + 2 + mk.size := by omega
            go_wp2_with fail
            refine (pick_lit D2.out 5 (by decide) (by rfl) (by decide) (by decide)).mono ?_
            rintro e w8 ⟨pp, j3, y3, rfl, hpp, hd3, hg3⟩
            have D3 := Lib.hid hd3
            have F3 := Lib.hid (grownBy_trans F2.out hg3)
            have z3 : ¬ 9223372036854775807 < S.size + 2 + mk.size + pp.size := by omega
            have z4 : ¬ 9223372036854775807 < S.size + 2 + mk.size + pp.size + 2 := by omega
            have e2 : (d : Int) + 1 - 1 = (d : Int) := by omega
            clear hd3 hg3
            go_wp2_with fail
            refine (IH.out _ _ _ D3.out).mono ?_
            rintro e w9 ⟨rw9, j4, y4, rfl, hrw, hd4, hg4⟩
            rw [HR.out] at hrw
            have D4 := Lib.hid hd4
            have F4 := Lib.hid (grownBy_trans F3.out hg4)
            have z5 : ¬ 9223372036854775807 < S.size + 2 + mk.size + pp.size + 2 + rw9.size := by omega
            have z6 : ¬ 9223372036854775807 < S.size + 2 + mk.size + pp.size + 2 + rw9.size + 2 := by omega
            clear hd4 hg4
            go_wp2_with fail
            have HN : Hid (StrCur K w0 w g (600 + (k + 1) * (R + 60)) (.string (S ++ (⟨#[45, 45]⟩ : ByteArray) ++ mk ++ pp ++ (⟨#[13, 10]⟩ : ByteArray) ++ rw9 ++ (⟨#[13, 10]⟩ : ByteArray))) w9) := Lib.hid ⟨_, j4, y4, rfl, by
              simp only [ByteArray.size_append]
              have x1 : (⟨#[45, 45]⟩ : ByteArray).size = 2 := rfl
              have x2 : (⟨#[13, 10]⟩ : ByteArray).size = 2 := rfl
              rw [Nat.add_mul]
              omega, D4.out, F4.out⟩
            go_roundw
            case rel => exact ⟨k + 1, by omega, by go_num, HN⟩
            case measure => simp [intOf]; omega
          · obtain rfl : k = n := by omega
            have g1 : decide ((k : Int) < (k : Int)) = false := by simp
            have z1 : ¬ 9223372036854775807 < 2 + mk.size := by omega
            have z2 : ¬ 9223372036854775807 < 2 + mk.size + 4 := by omega
            have z3 : ¬ 9223372036854775807 < 2 + mk.size + 2 := by omega
            have z4 : ¬ 9223372036854775807 < 2 + mk.size + 3 := by omega
            have z5 : ¬ 9223372036854775807 < 2 + mk.size + 13 := by omega
            have z6 : ¬ 9223372036854775807 < 2 + mk.size + 13 + mk.size := by omega
            have z7 : ¬ 9223372036854775807 < 2 + mk.size + 13 + mk.size + 5 := by omega
            go_wp2_with fail
            refine (pick_list D2.out 60 [(⟨#[45, 45]⟩ : ByteArray) ++ mk ++ ⟨#[45, 45, 13, 10]⟩, (⟨#[45, 45]⟩ : ByteArray) ++ mk ++ ⟨#[45, 45]⟩, ⟨#[]⟩, (⟨#[45, 45]⟩ : ByteArray) ++ mk ++ ⟨#[45, 45, 120]⟩, (⟨#[45, 45]⟩ : ByteArray) ++ mk ++ ⟨#[45, 45, 13, 10, 97, 102, 116, 101, 114, 13, 10, 45, 45]⟩ ++ mk ++ ⟨#[13, 10, 13, 10, 120]⟩] rfl rfl (by show 0 < 5; decide) (by show 5 ≤ 1000; decide) (fun x hx => by
              have x1 : (⟨#[45, 45]⟩ : ByteArray).size = 2 := rfl
              have x2 : (⟨#[45, 45, 13, 10]⟩ : ByteArray).size = 4 := rfl
              have x3 : (⟨#[45, 45, 120]⟩ : ByteArray).size = 3 := rfl
              have x4 : (⟨#[45, 45, 13, 10, 97, 102, 116, 101, 114, 13, 10, 45, 45]⟩ : ByteArray).size = 13 := rfl
              have x5 : (⟨#[13, 10, 13, 10, 120]⟩ : ByteArray).size = 5 := rfl
              have x6 : (⟨#[]⟩ : ByteArray).size = 0 := rfl
              simp only [List.mem_cons, List.not_mem_nil, or_false] at hx
              rcases hx with rfl | rfl | rfl | rfl | rfl <;> (try simp only [ByteArray.size_append]) <;> omega)).mono ?_
            rintro e w8 ⟨pp, j3, y3, rfl, hpp, hd3, hg3⟩
            have D3 := Lib.hid hd3
            have F3 := Lib.hid (grownBy_trans F2.out hg3)
            have z8 : ¬ 9223372036854775807 < S.size + pp.size := by omega
            clear hd3 hg3
            go_wp2_with fail
            go_ret
            refine ⟨_, j3, y3, rfl, ?_, D3.out, F3.out⟩
            rw [ByteArray.size_append, HBB.out]
            have : k * (R + 60) ≤ 3 * (R + 60) := Nat.mul_le_mul_right _ hk3
            omega
end Go.Proofs.Ytjleadlecdcdeaa
