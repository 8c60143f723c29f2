/-
  Bytes in signs of six bits: the walk of impl.PutB64.
-/
import Derived.Test.YtdgdflbhjbgmdaaDoorBsE
namespace Go.Proofs.YtdgdflbhjbgmdaaDoor
set_option linter.unusedVariables false
open Go.RowKit

theorem i64_and16 (n : Int) : bits .and .i64 n 65535 = n % 65536 := i64_mask 16 (by decide) n
theorem or_byte (a b : Nat) (ha : a < 2 ^ 40) (hb : b < 256) : bits .or .i64 ((a : Int) * 256) (b : Int) = (a : Int) * 256 + b := by
  have h2 : (BitVec.ofInt 64 ((a : Int) * 256) ||| BitVec.ofInt 64 (b : Int)) = BitVec.ofNat 64 (a * 256 + b) := by
    rw [show (a : Int) * 256 = ((a * 256 : Nat) : Int) by omega, BitVec.ofInt_natCast, BitVec.ofInt_natCast]
    apply BitVec.eq_of_toNat_eq
    rw [BitVec.toNat_or, BitVec.toNat_ofNat, BitVec.toNat_ofNat, BitVec.toNat_ofNat, Nat.mod_eq_of_lt (by omega), Nat.mod_eq_of_lt (by omega), Nat.mod_eq_of_lt (by omega)]
    rw [show a * 256 = 2 ^ 8 * a by omega]
    exact (Nat.two_pow_add_eq_or_of_lt (by omega) a).symm
  show IntKind.i64.wrap ((BitVec.ofInt 64 ((a : Int) * 256) ||| BitVec.ofInt 64 (b : Int)).toNat : Nat) = _
  rw [h2, BitVec.toNat_ofNat, IntKind.wrap_i64]
  omega

theorem sign_row {w1 : World} {B n x : Nat} {v : Value} {O : List UInt8} (hx : x < 64) (hx' : x < signsA.size) (hr : w1.ownsRow B 5 1 v n (O.map bv ++ [.int .u8 ((signsA[x]'hx').toNat : Int)])) (hn : n = O.length + 1) : w1.ownsRow B 5 1 v (O ++ [sg x]).length ((O ++ [sg x]).map bv) := by
  subst hn
  rw [signsA_at x hx hx'] at hr
  rw [List.length_append, List.map_append]
  exact hr

set_option maxRecDepth 100000 in
set_option maxHeartbeats 2000000 in
theorem implPutB64_any (s : ByteArray) (w : World) (hs : s.size ≤ 67108864) :
    Calls Tryd.prog 41 #[.string s] w fun e w' => e = .returned (.string ⟨(b64 s.data.toList).toArray⟩) ∧ Below w.heap.size w w' := by
  obtain ⟨i0, hi, hz0, hz1, hz2⟩ := info_parts infoByteJ
  go_enter Tryd.func41, Tryd.ntmps41
  go_wp2
  go_loopw [3, 4, 5, 9] (fun o b c i wr => ∃ (k B N : Nat) (L : List UInt8), k ≤ s.size ∧ i = .int .i64 (k : Int) ∧ c = .int .i64 (B : Int) ∧ b = .int .i64 (N : Int) ∧ Hid (encS s.data.toList k = (B, N, L)) ∧ wr.ownsRow w.heap.size 5 1 o L.length (L.map bv) ∧ Below w.heap.size w wr) (fun _ _ _ i _ => s.size - (intOf i).toNat)
  case atStart => exact ⟨0, 0, 0, [], by omega, rfl, rfl, rfl, Lib.hid rfl, World.ownsRow_nil _ _ _ _, (Below.refl _ _)⟩
  case round =>
    obtain ⟨k, B, N, L, hk, rfl, rfl, rfl, HD, hown, hB⟩ := hrel
    have hL : L.length ≤ 2 * k := by have := encS_len s.data.toList k; rw [HD.out] at this; exact this
    have hN : N < 65536 := by have := encS_n s.data.toList k; rw [HD.out] at this; exact this
    have hBs : B = 0 ∨ B = 2 ∨ B = 4 := by have := encS_bits s.data.toList k; rw [HD.out] at this; exact this
    have hsz := hB.size
    by_cases hlt : k < s.size
    · have hbb : byteAt s.data.toList k = s[k].toNat := by
        unfold byteAt
        rw [List.getD_eq_getElem?_getD, List.getElem?_eq_getElem (by simpa using hlt)]
        rfl
      have hy256 : s[k].toNat < 256 := UInt8.toNat_lt _
      generalize hy : s[k].toNat = y at hbb hy256
      have hor := or_byte N y (by omega) hy256
      obtain ⟨N2, hN2⟩ : ∃ N2, N2 = (N * 256 + y) % 65536 := ⟨_, rfl⟩
      have hN2l : N2 < 65536 := by omega
      have hm : bits .and .i64 ((N : Int) * 256 + (y : Int)) 65535 = (N2 : Int) := by rw [i64_and16]; omega
      have HST : Hid (encS s.data.toList (k + 1) = ((emits N2 (B + 8) L).1, N2, (emits N2 (B + 8) L).2)) := Lib.hid (by simp only [encS, HD.out, hbb, hN2])
      clear hN2 hbb
      obtain ⟨wo, rfl⟩ : ∃ wo : World, wo = wr := ⟨_, rfl⟩
      have he0 := emits_len N2 (B + 8) L
      generalize hE : emits N2 (B + 8) L = E at HST he0
      obtain ⟨B2, L2⟩ := E
      have HST' := Lib.hid HST
      clear HST
      go_wp2_with fail
      go_loopw [3, 5] (fun o c wr => ∃ (C : Nat) (O : List UInt8), (C = 0 ∨ C = 2 ∨ C = 4 ∨ C = 6 ∨ C = 8 ∨ C = 10 ∨ C = 12) ∧ c = .int .i64 (C : Int) ∧ Hid (emits N2 C O = (B2, L2)) ∧ 6 * O.length + C ≤ 12 * k + 12 ∧ wr.ownsRow w.heap.size 5 1 o O.length (O.map bv) ∧ Below w.heap.size w wr) (fun _ c _ => (intOf c).toNat)
      case atStart => exact ⟨B + 8, L, by omega, by go_num, Lib.hid hE, by omega, hown, hB⟩
      case round =>
        obtain ⟨C, O, hC, rfl, HE, hO, hown', hB'⟩ := hrel
        have hsz' := hB'.size
        rcases hC with rfl | rfl | rfl | rfl | rfl | rfl | rfl
        · have hE2 := HE.out
          rw [emits_end N2 0 O (by omega)] at hE2
          obtain ⟨rfl, rfl⟩ : 0 = B2 ∧ O = L2 := by simpa using hE2
          go_wp2_with fail
          exact ⟨⟨k + 1, 0, N2, O, by omega, by go_num, rfl, rfl, HST'.out, hown', hB'⟩, by simp [intOf]; omega⟩
        · have hE2 := HE.out
          rw [emits_end N2 2 O (by omega)] at hE2
          obtain ⟨rfl, rfl⟩ : 2 = B2 ∧ O = L2 := by simpa using hE2
          go_wp2_with fail
          exact ⟨⟨k + 1, 2, N2, O, by omega, by go_num, rfl, rfl, HST'.out, hown', hB'⟩, by simp [intOf]; omega⟩
        · have hE2 := HE.out
          rw [emits_end N2 4 O (by omega)] at hE2
          obtain ⟨rfl, rfl⟩ : 4 = B2 ∧ O = L2 := by simpa using hE2
          go_wp2_with fail
          exact ⟨⟨k + 1, 4, N2, O, by omega, by go_num, rfl, rfl, HST'.out, hown', hB'⟩, by simp [intOf]; omega⟩
        · have hx : N2 / 2 ^ (6 - 6) % 64 < 64 := Nat.mod_lt _ (by decide)
          have hbits : bits .and .i64 (N2 : Int) 63 = ((N2 / 2 ^ (6 - 6) % 64 : Nat) : Int) := by rw [i64_and63]; simp
          have hE2 := HE.out
          rw [emits_more N2 6 O (by omega) (by omega)] at hE2
          generalize N2 / 2 ^ (6 - 6) % 64 = x at hx hbits hE2
          have HE2 := Lib.hid hE2
          clear hE2
          have hxi : (x : Int) < 64 := by omega
          go_wp2_with (at_builtin; refine wpList_append_own _ rfl _ _ 22 rfl w.heap.size 5 i0 (.int .u8 0) 1 1 Tryd.underlying22 hi hz0 hz1 hz2 rfl (by decide) _ _ _ rfl (hown'.alloc _) ⟨wr.heap.size, 0, none⟩ 1 1 [.int .u8 ((signsA[x]'(by rw [signsA_size]; exact hx)).toNat : Int)] rfl rfl (cell_one_new _ _ _) (by simp [Value.oneCell']) (by unfold maxLen; omega) (by omega) (by simp; omega) ?_; intro v' w1 hown2 hgrow _)
          have hB1 : Below w.heap.size w w1 := (hB'.alloc hsz' _).grown hgrow (by simp; omega) (fun k e => (hown'.lt k e).1)
          have hrow := sign_row hx _ hown2 (by simp)
          go_roundw
          case rel => exact ⟨0, O ++ [sg x], by omega, by go_num, HE2, by rw [List.length_append, List.length_singleton]; omega, hrow, hB1⟩
          case measure => simp [intOf]
        · have hx : N2 / 2 ^ (8 - 6) % 64 < 64 := Nat.mod_lt _ (by decide)
          have hbits : bits .and .i64 ((N2 : Int) / 4) 63 = ((N2 / 2 ^ (8 - 6) % 64 : Nat) : Int) := by rw [i64_and63]; simp
          have hE2 := HE.out
          rw [emits_more N2 8 O (by omega) (by omega)] at hE2
          generalize N2 / 2 ^ (8 - 6) % 64 = x at hx hbits hE2
          have HE2 := Lib.hid hE2
          clear hE2
          have hxi : (x : Int) < 64 := by omega
          go_wp2_with (at_builtin; refine wpList_append_own _ rfl _ _ 22 rfl w.heap.size 5 i0 (.int .u8 0) 1 1 Tryd.underlying22 hi hz0 hz1 hz2 rfl (by decide) _ _ _ rfl (hown'.alloc _) ⟨wr.heap.size, 0, none⟩ 1 1 [.int .u8 ((signsA[x]'(by rw [signsA_size]; exact hx)).toNat : Int)] rfl rfl (cell_one_new _ _ _) (by simp [Value.oneCell']) (by unfold maxLen; omega) (by omega) (by simp; omega) ?_; intro v' w1 hown2 hgrow _)
          have hB1 : Below w.heap.size w w1 := (hB'.alloc hsz' _).grown hgrow (by simp; omega) (fun k e => (hown'.lt k e).1)
          have hrow := sign_row hx _ hown2 (by simp)
          go_roundw
          case rel => exact ⟨2, O ++ [sg x], by omega, by go_num, HE2, by rw [List.length_append, List.length_singleton]; omega, hrow, hB1⟩
          case measure => simp [intOf]
        · have hx : N2 / 2 ^ (10 - 6) % 64 < 64 := Nat.mod_lt _ (by decide)
          have hbits : bits .and .i64 ((N2 : Int) / 16) 63 = ((N2 / 2 ^ (10 - 6) % 64 : Nat) : Int) := by rw [i64_and63]; simp
          have hE2 := HE.out
          rw [emits_more N2 10 O (by omega) (by omega)] at hE2
          generalize N2 / 2 ^ (10 - 6) % 64 = x at hx hbits hE2
          have HE2 := Lib.hid hE2
          clear hE2
          have hxi : (x : Int) < 64 := by omega
          go_wp2_with (at_builtin; refine wpList_append_own _ rfl _ _ 22 rfl w.heap.size 5 i0 (.int .u8 0) 1 1 Tryd.underlying22 hi hz0 hz1 hz2 rfl (by decide) _ _ _ rfl (hown'.alloc _) ⟨wr.heap.size, 0, none⟩ 1 1 [.int .u8 ((signsA[x]'(by rw [signsA_size]; exact hx)).toNat : Int)] rfl rfl (cell_one_new _ _ _) (by simp [Value.oneCell']) (by unfold maxLen; omega) (by omega) (by simp; omega) ?_; intro v' w1 hown2 hgrow _)
          have hB1 : Below w.heap.size w w1 := (hB'.alloc hsz' _).grown hgrow (by simp; omega) (fun k e => (hown'.lt k e).1)
          have hrow := sign_row hx _ hown2 (by simp)
          go_roundw
          case rel => exact ⟨4, O ++ [sg x], by omega, by go_num, HE2, by rw [List.length_append, List.length_singleton]; omega, hrow, hB1⟩
          case measure => simp [intOf]
        · have hx : N2 / 2 ^ (12 - 6) % 64 < 64 := Nat.mod_lt _ (by decide)
          have hbits : bits .and .i64 ((N2 : Int) / 64) 63 = ((N2 / 2 ^ (12 - 6) % 64 : Nat) : Int) := by rw [i64_and63]; simp
          have hE2 := HE.out
          rw [emits_more N2 12 O (by omega) (by omega)] at hE2
          generalize N2 / 2 ^ (12 - 6) % 64 = x at hx hbits hE2
          have HE2 := Lib.hid hE2
          clear hE2
          have hxi : (x : Int) < 64 := by omega
          go_wp2_with (at_builtin; refine wpList_append_own _ rfl _ _ 22 rfl w.heap.size 5 i0 (.int .u8 0) 1 1 Tryd.underlying22 hi hz0 hz1 hz2 rfl (by decide) _ _ _ rfl (hown'.alloc _) ⟨wr.heap.size, 0, none⟩ 1 1 [.int .u8 ((signsA[x]'(by rw [signsA_size]; exact hx)).toNat : Int)] rfl rfl (cell_one_new _ _ _) (by simp [Value.oneCell']) (by unfold maxLen; omega) (by omega) (by simp; omega) ?_; intro v' w1 hown2 hgrow _)
          have hB1 : Below w.heap.size w w1 := (hB'.alloc hsz' _).grown hgrow (by simp; omega) (fun k e => (hown'.lt k e).1)
          have hrow := sign_row hx _ hown2 (by simp)
          go_roundw
          case rel => exact ⟨6, O ++ [sg x], by omega, by go_num, HE2, by rw [List.length_append, List.length_singleton]; omega, hrow, hB1⟩
          case measure => simp [intOf]
    · obtain rfl : k = s.size := by omega
      have hfin : encEnd s.data.toList = if B = 0 then L else L ++ [sg (N * 2 ^ (6 - B) % 64)] := by
        unfold encEnd
        have : s.data.toList.length = s.size := by simp
        rw [this, HD.out]
      rw [enc_b64] at hfin
      rcases hBs with rfl | rfl | rfl
      · have hback := rowJ_back (P := Tryd.prog) hown 22 9 5 Tryd.underlying22 Tryd.underlying5 Tryd.underlying9
        have HF := Lib.hid hfin
        clear hfin
        go_wp2_with fail
        go_ret
        exact ⟨by rw [HF.out]; rfl, hB⟩
      · have hx : N * 2 ^ (6 - 2) % 64 < 64 := Nat.mod_lt _ (by decide)
        have hbits : bits .and .i64 ((N : Int) * 16) 63 = ((N * 2 ^ (6 - 2) % 64 : Nat) : Int) := by rw [i64_and63]; simp
        rw [if_neg (by decide)] at hfin
        generalize N * 2 ^ (6 - 2) % 64 = x at hx hbits hfin
        have HF := Lib.hid hfin
        clear hfin
        have hxi : (x : Int) < 64 := by omega
        go_wp2_with (at_builtin; refine wpList_append_own _ rfl _ _ 22 rfl w.heap.size 5 i0 (.int .u8 0) 1 1 Tryd.underlying22 hi hz0 hz1 hz2 rfl (by decide) _ _ _ rfl (hown.alloc _) ⟨wr.heap.size, 0, none⟩ 1 1 [.int .u8 ((signsA[x]'(by rw [signsA_size]; exact hx)).toNat : Int)] rfl rfl (cell_one_new _ _ _) (by simp [Value.oneCell']) (by unfold maxLen; omega) (by omega) (by simp; omega) ?_; intro v' w1 hown2 hgrow _)
        have hB1 : Below w.heap.size w w1 := (hB.alloc hsz _).grown hgrow (by simp; omega) (fun k e => (hown.lt k e).1)
        have hrow := sign_row hx _ hown2 (by simp)
        have hback := rowJ_back (P := Tryd.prog) hrow 22 9 5 Tryd.underlying22 Tryd.underlying5 Tryd.underlying9
        rw [hback]
        go_wp2_with fail
        go_ret
        exact ⟨by rw [HF.out]; simp, hB1⟩
      · have hx : N * 2 ^ (6 - 4) % 64 < 64 := Nat.mod_lt _ (by decide)
        have hbits : bits .and .i64 ((N : Int) * 4) 63 = ((N * 2 ^ (6 - 4) % 64 : Nat) : Int) := by rw [i64_and63]; simp
        rw [if_neg (by decide)] at hfin
        generalize N * 2 ^ (6 - 4) % 64 = x at hx hbits hfin
        have HF := Lib.hid hfin
        clear hfin
        have hxi : (x : Int) < 64 := by omega
        go_wp2_with (at_builtin; refine wpList_append_own _ rfl _ _ 22 rfl w.heap.size 5 i0 (.int .u8 0) 1 1 Tryd.underlying22 hi hz0 hz1 hz2 rfl (by decide) _ _ _ rfl (hown.alloc _) ⟨wr.heap.size, 0, none⟩ 1 1 [.int .u8 ((signsA[x]'(by rw [signsA_size]; exact hx)).toNat : Int)] rfl rfl (cell_one_new _ _ _) (by simp [Value.oneCell']) (by unfold maxLen; omega) (by omega) (by simp; omega) ?_; intro v' w1 hown2 hgrow _)
        have hB1 : Below w.heap.size w w1 := (hB.alloc hsz _).grown hgrow (by simp; omega) (fun k e => (hown.lt k e).1)
        have hrow := sign_row hx _ hown2 (by simp)
        have hback := rowJ_back (P := Tryd.prog) hrow 22 9 5 Tryd.underlying22 Tryd.underlying5 Tryd.underlying9
        rw [hback]
        go_wp2_with fail
        go_ret
        exact ⟨by rw [HF.out]; simp, hB1⟩
end Go.Proofs.YtdgdflbhjbgmdaaDoor
