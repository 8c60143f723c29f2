/-
  Bytes in signs of six bits: the walk of spec.PutB64.
-/
import Derived.Test.YtdgdflbhjbgmdaaDoorBsP
import Derived.WalkKit
import Derived.WalkSpells
import Derived.Lib.Hide
import Derived.Test.YtdgdflbhjbgmdaaDoorRow
namespace Go.Proofs.YtdgdflbhjbgmdaaDoor
set_option linter.unusedVariables false
open Go.RowKit

def signsA : ByteArray := ⟨#[65, 66, 67, 68, 69, 70, 71, 72, 73, 74, 75, 76, 77, 78, 79, 80, 81, 82, 83, 84, 85, 86, 87, 88, 89, 90, 97, 98, 99, 100, 101, 102, 103, 104, 105, 106, 107, 108, 109, 110, 111, 112, 113, 114, 115, 116, 117, 118, 119, 120, 121, 122, 48, 49, 50, 51, 52, 53, 54, 55, 56, 57, 43, 47]⟩
theorem signsA_size : signsA.size = 64 := rfl
theorem signsA_at (k : Nat) (h : k < 64) (h' : k < signsA.size) : signsA[k]'h' = sg k := by
  have e : ∀ k : Fin 64, signsA.data.toList[k.val]? = some (sg k.val) := by decide
  have e1 := e ⟨k, h⟩
  have e2 : signsA.data.toList[k]? = some (signsA[k]'h') := by rw [List.getElem?_eq_getElem (by simpa using h')]; rfl
  rw [e2] at e1
  exact Option.some.inj e1

theorem signs_facts : ∃ SA : ByteArray, SA = signsA ∧ SA.size = 64 ∧ ∀ k (h' : k < SA.size), SA[k]'h' = sg k :=
  ⟨signsA, rfl, rfl, fun k h' => signsA_at k h' h'⟩
theorem i64_mask (i : Nat) (hi : i ≤ 60) (n : Int) : bits .and .i64 n ((2 ^ i - 1 : Nat) : Int) = n % ((2 ^ i : Nat) : Int) := by
  have hm : (BitVec.ofInt 64 ((2 ^ i - 1 : Nat) : Int)).toNat = 2 ^ i - 1 := by
    rw [BitVec.toNat_ofInt, ← Int.natCast_emod, Int.toNat_natCast]
    refine Nat.mod_eq_of_lt ?_
    have : 2 ^ i ≤ 2 ^ 60 := Nat.pow_le_pow_right (by decide) hi
    omega
  have key : (BitVec.ofInt 64 n &&& BitVec.ofInt 64 ((2 ^ i - 1 : Nat) : Int)).toNat = (n % ((2 ^ 64 : Nat) : Int)).toNat % 2 ^ i := by
    rw [BitVec.toNat_and, BitVec.toNat_ofInt, hm, Nat.and_two_pow_sub_one_eq_mod]
  show IntKind.i64.wrap ((BitVec.ofInt 64 n &&& BitVec.ofInt 64 ((2 ^ i - 1 : Nat) : Int)).toNat : Nat) = n % ((2 ^ i : Nat) : Int)
  rw [key, IntKind.wrap_i64]
  have hp : 2 ^ i ≤ 2 ^ 60 := Nat.pow_le_pow_right (by decide) hi
  have h64 : (2 ^ 64 : Nat) = 2 ^ (64 - i) * 2 ^ i := by rw [← Nat.pow_add]; congr 1; omega
  have hpos : 0 < 2 ^ i := Nat.two_pow_pos i
  have hlt := Nat.mod_lt (n % ((2 ^ 64 : Nat) : Int)).toNat hpos
  have e : (((n % ((2 ^ 64 : Nat) : Int)).toNat % 2 ^ i : Nat) : Int) = n % ((2 ^ i : Nat) : Int) := by
    have hnn : 0 ≤ n % ((2 ^ 64 : Nat) : Int) := Int.emod_nonneg _ (by decide)
    rw [Int.natCast_emod, Int.toNat_of_nonneg hnn]
    refine Int.emod_emod_of_dvd _ ?_
    rw [h64, Int.natCast_mul]
    exact Int.dvd_mul_left _ _
  rw [e]
  have h0 : 0 ≤ n % ((2 ^ i : Nat) : Int) := Int.emod_nonneg _ (by omega)
  have h1 : n % ((2 ^ i : Nat) : Int) < ((2 ^ i : Nat) : Int) := Int.emod_lt_of_pos _ (by omega)
  have h2 : ((2 ^ 60 : Nat) : Int) = 1152921504606846976 := by decide
  have h3 : ((2 ^ i : Nat) : Int) ≤ ((2 ^ 60 : Nat) : Int) := by exact_mod_cast hp
  omega
theorem i64_and63 (n : Int) : bits .and .i64 n 63 = n % 64 := i64_mask 6 (by decide) n
theorem i64_and24 (n : Int) : bits .and .i64 n 16777215 = n % 16777216 := i64_mask 24 (by decide) n
theorem sixAt_lt (N q : Nat) : sixAt N q < 64 := Nat.mod_lt _ (by decide)

set_option maxRecDepth 100000 in
set_option maxHeartbeats 400000 in
theorem signs_any (w : World) :
    Calls Tryd.prog 52 #[] w fun e w' => e = .returned (.string signsA) ∧ w' = w := by
  go_enter Tryd.func52, Tryd.ntmps52
  go_wp2
  go_ret
  exact ⟨rfl, rfl⟩

set_option maxRecDepth 100000 in
set_option maxHeartbeats 1000000 in
theorem specPutB64_any (s : ByteArray) (w : World) (hs : s.size ≤ 67108864) :
    Calls Tryd.prog 43 #[.string s] w fun e w' => e = .returned (.string ⟨(b64 s.data.toList).toArray⟩) ∧ Below w.heap.size w w' := by
  obtain ⟨i0, hi, hz0, hz1, hz2⟩ := info_parts infoByteJ
  obtain ⟨SA, hSA, hsz64, hsa⟩ := signs_facts
  have SIGNS : Hid (∀ w, Calls Tryd.prog 52 #[] w fun e w' => e = .returned (.string SA) ∧ w' = w) := Lib.hid (fun w => by rw [hSA]; exact signs_any w)
  have HSZ := Lib.hid hsz64
  have HSA := Lib.hid hsa
  clear hSA hsa
  go_enter Tryd.func43, Tryd.ntmps43
  go_wp2
  go_loopw [3, 4] (fun o i wr => ∃ (m : Nat) (L : List UInt8), 3 * m ≤ s.size + 2 ∧ i = .int .i64 ((3 * m : Nat) : Int) ∧ Hid (L = preB s.data.toList m) ∧ L.length ≤ 4 * m ∧ wr.ownsRow w.heap.size 5 1 o L.length (L.map bv) ∧ Below w.heap.size w wr) (fun _ i _ => s.size + 3 - (intOf i).toNat)
  case atStart => exact ⟨0, [], by omega, rfl, Lib.hid rfl, by simp, World.ownsRow_lit w #[] 0 (Nat.le_refl _) (by decide) rfl, (Below.refl _ _).alloc (Nat.le_refl _) _⟩
  case round =>
    obtain ⟨m, L, hm, rfl, HL, hL, hown, hB⟩ := hrel
    generalize hi3 : 3 * m = i at hm
    have HI := Lib.hid hi3
    clear hi3
    by_cases hlt : i < s.size
    · have hLb : L.length ≤ 2 * i := by have := HI.out; omega
      obtain ⟨wo, rfl⟩ : ∃ wo : World, wo = wr := ⟨_, rfl⟩
      go_wp2
      go_loopw [5, 6, 7] (fun n h k wr => ∃ (j N : Nat), j ≤ 3 ∧ k = .int .i64 ((i + j : Nat) : Int) ∧ n = .int .i64 (N : Int) ∧ Hid (N = nAt s.data.toList i j) ∧ h = .int .i64 ((min j (s.size - i) : Nat) : Int) ∧ wr = wo) (fun _ _ k _ => s.size + 3 - (intOf k).toNat)
      case atStart => exact ⟨0, 0, by omega, by go_num, rfl, Lib.hid rfl, by simp, rfl⟩
      case round =>
        obtain ⟨j, N, hj, rfl, rfl, HN, rfl, rfl⟩ := hrel
        have hNlt : N < 16777216 := by
          have h1 := nAt_lt s.data.toList i j
          rw [← HN.out] at h1
          have h2 : 256 ^ j ≤ 256 ^ 3 := Nat.pow_le_pow_right (by omega) hj
          have h3 : 256 ^ 3 = 16777216 := by decide
          omega
        by_cases hj3 : j < 3
        · have hN2 : N < 65536 := by
            have h1 := nAt_lt s.data.toList i j
            rw [← HN.out] at h1
            have h2 : 256 ^ j ≤ 256 ^ 2 := Nat.pow_le_pow_right (by omega) (by omega)
            have h3 : 256 ^ 2 = 65536 := by decide
            omega
          by_cases hin : i + j < s.size
          · have hb : (s[i + j].toNat : Int) < 256 := by have := UInt8.toNat_lt s[i + j]; omega
            have HBY : Hid (byteAt s.data.toList (i + j) = s[i + j].toNat) := Lib.hid (by
              unfold byteAt
              rw [List.getD_eq_getElem?_getD, List.getElem?_eq_getElem (by simpa using hin)]
              rfl)
            go_wp2
            go_roundw
            case rel => exact ⟨j + 1, N * 256 + s[i + j].toNat, by omega, by go_num, by go_num, Lib.hid (by rw [HN.out, ← HBY.out]; rfl), by go_num, trivial⟩
            case measure => simp [intOf]; omega
          · have HBY : Hid (byteAt s.data.toList (i + j) = 0) := Lib.hid (byteAt_out _ _ (by simp; omega))
            go_wp2
            go_roundw
            case rel => exact ⟨j + 1, N * 256, by omega, by go_num, by go_num, Lib.hid (by rw [HN.out]; show _ = nAt s.data.toList i j * 256 + byteAt s.data.toList (i + j); rw [HBY.out]; rfl), by go_num, trivial⟩
            case measure => simp [intOf]; omega
        · obtain rfl : j = 3 := by omega
          generalize hh : min 3 (s.size - i) = h
          have hh3 : h ≤ 3 := by omega
          have HH := Lib.hid hh
          have e3 : ((i + 3 : Nat) : Int) = (i : Int) + 3 := by omega
          rw [e3]
          clear hh hj3 hj e3
          go_wp2
          go_loopw [3, 8] (fun o k wr => ∃ (q : Nat), q ≤ h + 1 ∧ k = .int .i64 (q : Int) ∧ wr.ownsRow w.heap.size 5 1 o (L ++ grp N q).length ((L ++ grp N q).map bv) ∧ Below w.heap.size w wr) (fun _ k _ => 4 - (intOf k).toNat)
          case atStart => exact ⟨0, by omega, by go_num, by simpa [grp] using hown, hB⟩
          case round =>
            obtain ⟨q, hq, rfl, hown', hB'⟩ := hrel
            have hsz' := hB'.size
            by_cases hqh : q ≤ h
            · have hlen : (L ++ grp N q).length = L.length + q := by rw [List.length_append, grp_len]
              have hx : sixAt N q < 64 := sixAt_lt N q
              have hxs0 : sixAt N q < SA.size := by rw [HSZ.out]; exact hx
              have hsg := HSA.out (sixAt N q) hxs0
              have hnext : ∀ (v' : Value) (w1 : World), w1.ownsRow w.heap.size 5 1 v' (L.length + q + 1) ((L ++ grp N q).map bv ++ [.int .u8 ((SA[sixAt N q]'hxs0).toNat : Int)]) → w1.ownsRow w.heap.size 5 1 v' (L ++ grp N (q + 1)).length ((L ++ grp N (q + 1)).map bv) := fun v' w1 hr => by
                rw [hsg] at hr
                rw [grp_succ, ← List.append_assoc, List.map_append, List.length_append, hlen]
                exact hr
              rw [hlen] at hown'
              generalize hxx : sixAt N q = x at hx hxs0 hnext
              have HX : Hid (x = sixAt N q) := Lib.hid hxx.symm
              have hxs : x < SA.size := hxs0
              have hxi : (x : Int) < 64 := by omega
              clear hxx hsg
              obtain rfl | rfl | rfl | rfl : q = 0 ∨ q = 1 ∨ q = 2 ∨ q = 3 := by omega
              · have hbits : bits .and .i64 ((N : Int) / 262144) 63 = (x : Int) := by rw [i64_and63, HX.out]; unfold sixAt; simp
                go_wp2_with (first | (go_at_call 52; refine (SIGNS.out _).mono ?_; rintro e w' ⟨rfl, rfl⟩) | (at_builtin; refine wpList_append_own _ rfl _ _ 22 rfl w.heap.size 5 i0 (.int .u8 0) 1 1 Tryd.underlying22 hi hz0 hz1 hz2 rfl (by decide) _ _ _ rfl (hown'.alloc _) ⟨w'.heap.size, 0, none⟩ 1 1 [.int .u8 ((SA[x]'hxs).toNat : Int)] rfl rfl (cell_one_new _ _ _) (by simp [Value.oneCell']) (by unfold maxLen; omega) (by omega) (by simp; omega) ?_; intro v' w1 hown2 hgrow _))
                have hB1 : Below w.heap.size w w1 := (hB'.alloc hsz' _).grown hgrow (by simp; omega) (fun k e => (hown'.lt k e).1)
                have hrow := hnext v' w1 hown2
                go_roundw
                case rel => exact ⟨1, by omega, by go_num, hrow, hB1⟩
                case measure => simp [intOf]
              · have hbits : bits .and .i64 ((N : Int) / 4096) 63 = (x : Int) := by rw [i64_and63, HX.out]; unfold sixAt; simp
                go_wp2_with (first | (go_at_call 52; refine (SIGNS.out _).mono ?_; rintro e w' ⟨rfl, rfl⟩) | (at_builtin; refine wpList_append_own _ rfl _ _ 22 rfl w.heap.size 5 i0 (.int .u8 0) 1 1 Tryd.underlying22 hi hz0 hz1 hz2 rfl (by decide) _ _ _ rfl (hown'.alloc _) ⟨w'.heap.size, 0, none⟩ 1 1 [.int .u8 ((SA[x]'hxs).toNat : Int)] rfl rfl (cell_one_new _ _ _) (by simp [Value.oneCell']) (by unfold maxLen; omega) (by omega) (by simp; omega) ?_; intro v' w1 hown2 hgrow _))
                have hB1 : Below w.heap.size w w1 := (hB'.alloc hsz' _).grown hgrow (by simp; omega) (fun k e => (hown'.lt k e).1)
                have hrow := hnext v' w1 hown2
                go_roundw
                case rel => exact ⟨2, by omega, by go_num, hrow, hB1⟩
                case measure => simp [intOf]
              · have hbits : bits .and .i64 ((N : Int) / 64) 63 = (x : Int) := by rw [i64_and63, HX.out]; unfold sixAt; simp
                go_wp2_with (first | (go_at_call 52; refine (SIGNS.out _).mono ?_; rintro e w' ⟨rfl, rfl⟩) | (at_builtin; refine wpList_append_own _ rfl _ _ 22 rfl w.heap.size 5 i0 (.int .u8 0) 1 1 Tryd.underlying22 hi hz0 hz1 hz2 rfl (by decide) _ _ _ rfl (hown'.alloc _) ⟨w'.heap.size, 0, none⟩ 1 1 [.int .u8 ((SA[x]'hxs).toNat : Int)] rfl rfl (cell_one_new _ _ _) (by simp [Value.oneCell']) (by unfold maxLen; omega) (by omega) (by simp; omega) ?_; intro v' w1 hown2 hgrow _))
                have hB1 : Below w.heap.size w w1 := (hB'.alloc hsz' _).grown hgrow (by simp; omega) (fun k e => (hown'.lt k e).1)
                have hrow := hnext v' w1 hown2
                go_roundw
                case rel => exact ⟨3, by omega, by go_num, hrow, hB1⟩
                case measure => simp [intOf]
              · have hbits : bits .and .i64 ((N : Int)) 63 = (x : Int) := by rw [i64_and63, HX.out]; unfold sixAt; simp
                go_wp2_with (first | (go_at_call 52; refine (SIGNS.out _).mono ?_; rintro e w' ⟨rfl, rfl⟩) | (at_builtin; refine wpList_append_own _ rfl _ _ 22 rfl w.heap.size 5 i0 (.int .u8 0) 1 1 Tryd.underlying22 hi hz0 hz1 hz2 rfl (by decide) _ _ _ rfl (hown'.alloc _) ⟨w'.heap.size, 0, none⟩ 1 1 [.int .u8 ((SA[x]'hxs).toNat : Int)] rfl rfl (cell_one_new _ _ _) (by simp [Value.oneCell']) (by unfold maxLen; omega) (by omega) (by simp; omega) ?_; intro v' w1 hown2 hgrow _))
                have hB1 : Below w.heap.size w w1 := (hB'.alloc hsz' _).grown hgrow (by simp; omega) (fun k e => (hown'.lt k e).1)
                have hrow := hnext v' w1 hown2
                go_roundw
                case rel => exact ⟨4, by omega, by go_num, hrow, hB1⟩
                case measure => simp [intOf]
            · obtain rfl : q = h + 1 := by omega
              have hpre : L ++ grp N (h + 1) = preB s.data.toList (m + 1) := by
                show _ = preB s.data.toList m ++ grp (nAt s.data.toList (3 * m) 3) (min 3 (s.data.toList.length - 3 * m) + 1)
                rw [← HL.out, HI.out, ← HN.out]
                have : min 3 (s.data.toList.length - i) = h := by rw [← HH.out]; simp
                rw [this]
              have HP := Lib.hid hpre
              have hl4 : (L ++ grp N (h + 1)).length ≤ 4 * (m + 1) := by rw [List.length_append, grp_len]; omega
              generalize L ++ grp N (h + 1) = L2 at hown' HP hl4
              clear hpre
              go_wp2
              have h3 : 3 * m = i := HI.out
              exact ⟨⟨m + 1, L2, by omega, by go_num, HP, hl4, hown', hB'⟩, by simp [intOf]; omega⟩
    · have hback := rowJ_back (P := Tryd.prog) hown 22 9 5 Tryd.underlying22 Tryd.underlying5 Tryd.underlying9
      go_wp2
      go_ret
      refine ⟨?_, hB⟩
      rw [HL.out]
      unfold b64
      have hm2 : (s.data.toList.length + 2) / 3 = m := by have := HI.out; simp; omega
      rw [hm2]
      rfl
end Go.Proofs.YtdgdflbhjbgmdaaDoor
