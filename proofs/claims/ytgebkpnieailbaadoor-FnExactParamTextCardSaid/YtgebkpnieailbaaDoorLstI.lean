/-
  Elements with blanks between, in brackets: the walk of impl's listText.
-/
import Derived.Test.YtgebkpnieailbaaDoorCpS
import Derived.Test.YtgebkpnieailbaaDoorGluP
import Derived.Test.YtgebkpnieailbaaDoorVals
import Derived.Deep.OwnRows
namespace Go.Proofs.YtgebkpnieailbaaDoor
set_option linter.unusedVariables false
open Go.RowKit

def bytesL (L : List ByteArray) : List (List UInt8) := L.map (·.data.toList)
theorem bytes_take (L : List ByteArray) (k : Nat) (h : k < L.length) : bytesL (L.take (k + 1)) = bytesL (L.take k) ++ [L[k].data.toList] := by
  unfold bytesL
  rw [List.take_add_one, List.getElem?_eq_getElem h, List.map_append]
  rfl
theorem bytes_total (L : List ByteArray) (k : Nat) : total (bytesL (L.take k)) ≤ total (bytesL L) := by
  have : bytesL L = bytesL (L.take k) ++ bytesL (L.drop k) := by
    unfold bytesL
    rw [← List.map_append, List.take_append_drop]
  rw [this, total_append]
  omega
theorem bytes_len (L : List ByteArray) : (bytesL L).length = L.length := by simp [bytesL]

set_option maxRecDepth 100000 in
set_option maxHeartbeats 1000000 in
theorem listText_any (v : Value) (L : List ByteArray) (w : World) (hv : ValsAt w v (L.map Value.string)) (hl : L.length ≤ 4194304) (ht : total (bytesL L) ≤ 2147483648) :
    Calls Tryd.prog 13 #[v] w fun e w' => e = .returned (.string (mkB (listT (bytesL L)))) ∧ Below w.heap.size w w' := by
  obtain ⟨p, cap, rfl, hcell⟩ : ∃ p cap, v = .slice p L.length cap ∧ ∀ k (h : k < L.length), ∃ g, p = some ⟨g, 0, none⟩ ∧ g < w.heap.size ∧ w.cell? ⟨g, k, none⟩ = some (.string L[k]) := by
    rcases hv with ⟨h1, p, cap, rfl⟩ | ⟨g, cap, rfl, hg, hc⟩
    · have h0 : L.length = 0 := by
        have := congrArg List.length h1
        simpa using this
      exact ⟨p, cap, by rw [h0], fun k h => by omega⟩
    · refine ⟨some ⟨g, 0, none⟩, cap, by simp, fun k h => ⟨g, rfl, hg, ?_⟩⟩
      have := (hc k (by simpa using h)).1
      rw [this]
      simp [h]
  have HC := Lib.hid hcell
  have HT := Lib.hid ht
  clear hcell hv ht
  go_enter Tryd.func13, Tryd.ntmps13
  go_wp2
  go_loopw [3, 12] (fun z i wr => wr = w ∧ ∃ k : Nat, k ≤ L.length ∧ i = .int .i64 (k : Int) ∧ z = .int .i64 ((2 + total (bytesL (L.take k)) + k : Nat) : Int)) (fun _ i _ => L.length - (intOf i).toNat)
  case atStart => exact ⟨rfl, 0, Nat.zero_le _, rfl, by simp [bytesL, total]⟩
  case round =>
    obtain ⟨rfl, k, hk, rfl, rfl⟩ := hrel
    have hle := bytes_total L k
    have hT := HT.out
    by_cases hlt : k < L.length
    · have g1 : decide ((k : Int) < (L.length : Int)) = true := by simp; omega
      have i1 : (0 : Int) ≤ (k : Int) := by omega
      have i2 : (k : Int) < (L.length : Int) := by omega
      obtain ⟨g, rfl, hg, hc⟩ := HC.out k hlt
      have hst := bytes_take L k hlt
      have hle2 := bytes_total L (k + 1)
      rw [hst, total_append, total_cons] at hle2
      have hN : Hid (total (bytesL (L.take (k + 1))) = total (bytesL (L.take k)) + L[k].size) := Lib.hid (by rw [hst, total_append, total_cons]; simp [total])
      have hzz : L[k].size ≤ 2147483648 := by
        have : L[k].data.toList.length = L[k].size := by simp
        omega
      generalize total (bytesL (L.take k)) = t1 at hN hle ⊢
      generalize L[k] = x at hc hN hzz
      have ht1 : t1 ≤ 2147483648 := by omega
      clear hst hle2 hle
      go_wp2
      go_roundw
      case rel => exact ⟨trivial, k + 1, by omega, by go_num, by rw [hN.out]; go_num⟩
      case measure => simp [intOf]; omega
    · obtain rfl : k = L.length := by omega
      have g1 : decide ((L.length : Int) < (L.length : Int)) = false := by simp
      rw [List.take_length] at hle ⊢
      obtain ⟨N, hN⟩ : ∃ N, 2 + total (bytesL L) + L.length = N := ⟨_, rfl⟩
      rw [hN]
      have n1 : 2 ≤ N := by omega
      have n2 : N ≤ 2152000000 := by omega
      have HN := Lib.hid hN
      clear hN hle hT
      have i1 : (0 : Int) ≤ (N : Int) := by omega
      have i2 : (N : Int) ≤ 2152000000 := by omega
      have hmk := run_make_row' (P := Tryd.prog) 43 5 (.int .u8 0) 1 Tryd.underlying43 (by kernel_rfl) rfl .i64 .i64 N (by omega) (by omega) wr
      obtain ⟨cs, hcs, hcz⟩ : ∃ cs : Array Value, madeCells #[.int .u8 0] N = cs ∧ cs.size = N := ⟨_, rfl, by simp [madeCells]⟩
      rw [hcs] at hmk
      have B0 : Lib.Buf wr (wr.alloc (.cells cs 5)) wr.heap.size N [] := buf_made wr 5 cs N (by omega)
      obtain ⟨w1, hr1, B1⟩ := copy_str (P := Tryd.prog) wr _ wr.heap.size N [] ⟨#[40]⟩ 43 9 3 5 Tryd.underlying43 (by kernel_rfl) B0 (by simp [ByteArray.size]; omega)
      rw [List.length_nil, Lib.tailV_zero] at hr1
      have HB1 := Lib.hid B1
      clear B0 B1 hcs hcz
      go_wp2_with (at_builtin; refine Lib.wpList_copy_run _ rfl _ _ 43 9 rfl _ _ rfl rfl hr1 ?_)
      have HC2 : Hid (∀ w2, Below wr.heap.size wr w2 → ∀ k (h : k < L.length), ∃ g, p = some ⟨g, 0, none⟩ ∧ w2.cell? ⟨g, k, none⟩ = some (.string L[k])) := Lib.hid (fun w2 hB k h => by
        obtain ⟨g, h1, h2, h3⟩ := HC.out k h
        exact ⟨g, h1, (hB.cell (p := ⟨g, k, none⟩) h2).trans h3⟩)
      clear HC
      clear hk hlt hr1 hmk
      obtain ⟨w0, rfl⟩ : ∃ w0 : World, w0 = wr := ⟨_, rfl⟩
      go_loopw [7, 28] (fun z i wr => ∃ (k : Nat) (acc : List UInt8), k ≤ L.length ∧ i = .int .i64 (k : Int) ∧ z = .int .i64 (acc.length : Int) ∧ Hid (acc = 40 :: joinB (bytesL (L.take k))) ∧ Hid (Lib.Buf w0 wr w0.heap.size N acc)) (fun _ i _ => L.length - (intOf i).toNat)
      case atStart => exact ⟨0, [40], Nat.zero_le _, rfl, rfl, Lib.hid rfl, HB1⟩
      case round =>
        obtain ⟨k, acc, hk, rfl, rfl, HA, HB⟩ := hrel
        have hB2 := HB.out.below
        have hT := HT.out
        have hNN := HN.out
        have hlen : acc.length = 1 + total (bytesL (L.take k)) + (k - 1) := by
          rw [HA.out, List.length_cons, joinB_len, bytes_len, List.length_take, Nat.min_eq_left hk]
          omega
        have hle := bytes_total L k
        by_cases hlt : k < L.length
        · have g1 : decide ((k : Int) < (L.length : Int)) = true := by simp; omega
          have i1 : (0 : Int) ≤ (k : Int) := by omega
          have i2 : (k : Int) < (L.length : Int) := by omega
          obtain ⟨g, rfl, hc⟩ := HC2.out wr hB2 k hlt
          have hst := bytes_take L k hlt
          have hle2 := bytes_total L (k + 1)
          rw [hst, total_append, total_cons] at hle2
          have hxl : L[k].data.toList.length = L[k].size := by simp
          have htn : total ([] : List (List UInt8)) = 0 := rfl
          rw [hxl, htn] at hle2
          have hfit : acc.length + 1 + L[k].size + 1 ≤ N := by omega
          have HJ : Hid (joinB (bytesL (L.take (k + 1))) = if k = 0 then L[k].data.toList else joinB (bytesL (L.take k)) ++ 32 :: L[k].data.toList) := Lib.hid (by
            rw [hst]
            by_cases h0 : k = 0
            · subst h0
              simp [bytesL, joinB, glueT]
            · rw [if_neg h0, joinB_snoc]
              intro hx
              have := congrArg List.length hx
              rw [bytes_len, List.length_take, List.length_nil] at this
              omega)
          generalize L[k] = x at hc HJ hfit
          clear hst hle2 hxl htn hle hlen hT hNN
          have hsl1 : ∀ W, (Instr.slice 43 (.slice (some ⟨w0.heap.size, 0, none⟩) N N) (some (.int .i64 (acc.length : Int))) none none).run Tryd.prog W = .ok (Lib.tailV w0.heap.size N acc.length) W := fun W => Lib.run_slice_tailV W 43 5 Tryd.underlying43 (fun w => by kernel_rfl) _ N acc.length (by omega)
          have h1z : (⟨#[32]⟩ : ByteArray).size = 1 := rfl
          by_cases h0 : k = 0
          · have g2 : decide (0 < k) = false := by simp; omega
            obtain ⟨w3, hr2, B3⟩ := copy_str (P := Tryd.prog) w0 wr w0.heap.size N acc x 43 9 3 5 Tryd.underlying43 (by kernel_rfl) HB.out (by omega)
            have HB3 := Lib.hid B3
            have HA3 : Hid (acc ++ x.data.toList = 40 :: joinB (bytesL (L.take (k + 1)))) := Lib.hid (by rw [HJ.out, if_pos h0, HA.out, h0]; rfl)
            have hl3 : (acc ++ x.data.toList).length = acc.length + x.size := by rw [List.length_append]; simp
            obtain ⟨a3, ha3⟩ : ∃ a3, acc ++ x.data.toList = a3 := ⟨_, rfl⟩
            rw [ha3] at HB3 HA3 hl3
            clear B3 HJ ha3 h0
            go_wp2_with (at_builtin; refine Lib.wpList_copy_run _ rfl _ _ 43 9 rfl _ _ rfl rfl hr2 ?_)
            go_roundw
            case rel => exact ⟨k + 1, a3, by omega, by go_num, by rw [hl3]; go_num, HA3, HB3⟩
            case measure => simp [intOf]; omega
          · have g2 : decide ((0 : Int) < (k : Int)) = true := by simp; omega
            obtain ⟨w3, hr2, B3⟩ := copy_str (P := Tryd.prog) w0 wr w0.heap.size N acc ⟨#[32]⟩ 43 9 3 5 Tryd.underlying43 (by kernel_rfl) HB.out (by rw [h1z]; omega)
            obtain ⟨w4, hr3, B4⟩ := copy_str (P := Tryd.prog) w0 w3 w0.heap.size N (acc ++ [32]) x 43 9 3 5 Tryd.underlying43 (by kernel_rfl) B3 (by rw [List.length_append]; simp; omega)
            have hcl : (acc ++ ([32] : List UInt8)).length = acc.length + 1 := by simp
            rw [hcl] at hr3
            have hs2 : ∀ W, (Instr.slice 43 (.slice (some ⟨w0.heap.size, 0, none⟩) N N) (some (.int .i64 ((acc.length : Int) + 1))) none none).run Tryd.prog W = .ok (Lib.tailV w0.heap.size N (acc.length + 1)) W := fun W => by
              have := Lib.run_slice_tailV (P := Tryd.prog) W 43 5 Tryd.underlying43 (fun w => by kernel_rfl) w0.heap.size N (acc.length + 1) (by omega)
              rwa [show ((acc.length + 1 : Nat) : Int) = (acc.length : Int) + 1 by omega] at this
            clear hcl
            have HB4 := Lib.hid B4
            have HA4 : Hid (acc ++ [32] ++ x.data.toList = 40 :: joinB (bytesL (L.take (k + 1)))) := Lib.hid (by rw [HJ.out, if_neg h0, HA.out]; simp)
            have hl4 : (acc ++ [32] ++ x.data.toList).length = acc.length + 1 + x.size := by rw [List.length_append, List.length_append]; simp
            rw [h1z] at hr2
            obtain ⟨a4, ha4⟩ : ∃ a4, acc ++ [32] ++ x.data.toList = a4 := ⟨_, rfl⟩
            rw [ha4] at HB4 HA4 hl4
            clear B3 B4 HJ ha4
            go_wp2_with (at_builtin; first | refine Lib.wpList_copy_run _ rfl _ _ 43 9 rfl _ _ rfl rfl hr2 ?_ | refine Lib.wpList_copy_run _ rfl _ _ 43 9 rfl _ _ rfl rfl hr3 ?_)
            go_roundw
            case rel => exact ⟨k + 1, a4, by omega, by go_num, by rw [hl4]; go_num, HA4, HB4⟩
            case measure => simp [intOf]; omega
        · obtain rfl : k = L.length := by omega
          have g1 : decide ((L.length : Int) < (L.length : Int)) = false := by simp
          have hfit : acc.length + 1 ≤ N := by
            rw [List.take_length] at hlen hle
            omega
          have h1z : (⟨#[41]⟩ : ByteArray).size = 1 := rfl
          have hsl1 : ∀ W, (Instr.slice 43 (.slice (some ⟨w0.heap.size, 0, none⟩) N N) (some (.int .i64 (acc.length : Int))) none none).run Tryd.prog W = .ok (Lib.tailV w0.heap.size N acc.length) W := fun W => Lib.run_slice_tailV W 43 5 Tryd.underlying43 (fun w => by kernel_rfl) _ N acc.length (by omega)
          obtain ⟨w3, hr2, B3⟩ := copy_str (P := Tryd.prog) w0 wr w0.heap.size N acc ⟨#[41]⟩ 43 9 3 5 Tryd.underlying43 (by kernel_rfl) HB.out (by rw [h1z]; omega)
          rw [h1z] at hr2
          have hbk := buf_back B3 43 9 5 N (acc.length + 1) (by simp) Tryd.underlying43 Tryd.underlying5 Tryd.underlying9
          have HF : Hid (acc ++ [41] = listT (bytesL L)) := Lib.hid (by rw [HA.out, List.take_length]; rfl)
          have HB3 := Lib.hid B3.below
          have e1 : ((⟨#[41]⟩ : ByteArray).data.toList) = [41] := rfl
          rw [e1] at hbk
          obtain ⟨a3, ha3⟩ : ∃ a3, acc ++ [41] = a3 := ⟨_, rfl⟩
          rw [ha3] at hbk HF
          have j1 : (0 : Int) ≤ (acc.length : Int) + 1 := by omega
          have j2 : (acc.length : Int) + 1 ≤ (N : Int) := by omega
          clear B3 ha3 HA hlen hle hT hNN
          go_wp2_with (at_builtin; refine Lib.wpList_copy_run _ rfl _ _ 43 9 rfl _ _ rfl rfl hr2 ?_)
          go_ret
          exact ⟨by rw [← HF.out]; rfl, HB3.out⟩
end Go.Proofs.YtgebkpnieailbaaDoor
