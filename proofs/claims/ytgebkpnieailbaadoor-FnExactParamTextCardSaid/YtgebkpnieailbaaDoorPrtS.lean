/-
  Parameters: the walk of spec's ParamText.
-/
import Derived.Test.YtgebkpnieailbaaDoorPrtP
import Derived.Test.YtgebkpnieailbaaDoorPsS
import Derived.Deep.RegionHeld3
namespace Go.Proofs.YtgebkpnieailbaaDoor
set_option linter.unusedVariables false
open Go.RowKit

theorem prt_join (O : ByteArray) (a b : List UInt8) : O ++ mkB a ++ ⟨#[32]⟩ ++ mkB b = mkB (O.data.toList ++ a ++ [32] ++ b) := by
  apply ByteArray.ext
  apply Array.ext'
  simp [ByteArray.data_append, mkB]

set_option maxRecDepth 100000 in
set_option maxHeartbeats 2000000 in
theorem specParamText_any (v : Value) (l : List Pr) (w : World) (hv : PrsAt w v l) (hm : totPrL l ≤ 1048576) (hl : l.length ≤ 1048576) :
    Calls Tryd.prog 5 #[v] w fun e w' => e = .returned (.string (mkB (prT l))) ∧ Below w.heap.size w w' := by
  obtain ⟨p, cap, rfl⟩ := hv.slice
  have HV := Lib.hid hv
  have hwt := words_total l (by omega)
  have HFL : Hid (total (wordsP l) ≤ 70000000) := Lib.hid (by omega)
  have HM := Lib.hid hm
  clear hv hm hwt
  by_cases h0 : l.length = 0
  · obtain rfl : l = [] := List.eq_nil_of_length_eq_zero h0
    clear h0
    go_enter Tryd.func5, Tryd.ntmps5
    go_wp2
    go_ret
    exact ⟨rfl, Below.refl _ _⟩
  · have g0 : ((l.length : Int) == 0) = false := by rw [beq_eq_false_iff_ne]; omega
    have hA : prT l = 40 :: joinB (wordsP l) ++ [41] := by unfold prT; rw [if_neg (by intro h; rw [h] at h0; simp at h0)]; rfl
    rw [hA]
    have hpos : 0 < l.length := Nat.pos_of_ne_zero h0
    obtain ⟨g, off, c2, hgv, hg, hc⟩ : ∃ g off c2, Value.slice p l.length cap = .slice (some ⟨g, off, none⟩) l.length c2 ∧ g < w.heap.size ∧ ∀ k, (h : k < l.length) → w.cell? ⟨g, off + k * 2, none⟩ = some (.string (mkB l[k].name)) ∧ w.cell? ⟨g, off + k * 2 + 1, none⟩ = some (.string (mkB l[k].value)) := by
      rcases HV.out with ⟨h, _⟩ | h
      · rw [h] at hpos; simp at hpos
      · exact h
    injection hgv with hgv1 hgv2 hgv3
    subst hgv1 hgv3
    have HC := Lib.hid hc
    clear hc h0 hA HV
    go_enter Tryd.func5, Tryd.ntmps5
    go_wp2
    go_loopw [3, 4] (fun o i wr => ∃ (k : Nat) (O : ByteArray), k ≤ l.length ∧ i = .int .i64 (k : Int) ∧ o = .string O ∧ Hid (O.data.toList = 40 :: joinB (wordsP (l.take k))) ∧ Below w.heap.size w wr) (fun _ i _ => l.length - (intOf i).toNat)
    case atStart => exact ⟨0, ⟨#[40]⟩, Nat.zero_le _, rfl, rfl, Lib.hid (by simp [wordsP, joinB]), Below.refl _ _⟩
    case round =>
      obtain ⟨k, O, hk, rfl, rfl, HO, hB⟩ := hrel
      have hsz := hB.size
      have hos : O.size ≤ 75000000 := by
        have h1 := congrArg List.length HO.out
        have h2 := words_pre l k
        have h3 := HFL.out
        rw [List.length_cons, joinB_len, words_len, List.length_take] at h1
        have h4 : O.data.toList.length = O.size := by simp
        omega
      by_cases hlt : k < l.length
      · have g1 : decide ((k : Int) < (l.length : Int)) = true := by simp; omega
        have i1 : (0 : Int) ≤ (k : Int) := by omega
        have i2 : (k : Int) < (l.length : Int) := by omega
        obtain ⟨x1, x2⟩ := HC.out k hlt
        have hjn := words_join l k hlt
        have hM := HM.out
        have hsm := totPr_mem (List.getElem_mem hlt)
        generalize l[k] = a at x1 x2 hjn hsm
        unfold totPr at hsm
        have n1 := putStr_len a.name (by omega)
        have n2 := putStr_len a.value (by omega)
        have PN := Lib.hid (fun w => specPutString_any (mkB a.name) w (by rw [mkB_size]; omega))
        have PV := Lib.hid (fun w => specPutString_any (mkB a.value) w (by rw [mkB_size]; omega))
        rw [mkB_list] at PN PV
        rw [show ∀ l : List UInt8, (⟨l.toArray⟩ : ByteArray) = mkB l from fun _ => rfl] at PN PV
        have m1 : (mkB (putStr a.name)).size ≤ 2097182 := by rw [mkB_size]; omega
        have m2 : (mkB (putStr a.value)).size ≤ 2097182 := by rw [mkB_size]; omega
        have HJN := Lib.hid hjn
        have HJ0 : Hid (∀ O2 : ByteArray, O2 ++ mkB (putStr a.name) ++ ⟨#[32]⟩ ++ mkB (putStr a.value) = mkB (O2.data.toList ++ putStr a.name ++ [32] ++ putStr a.value)) := Lib.hid (fun O2 => prt_join O2 _ _)
        have z1 : wr.cell? ⟨g, off + k * 2, none⟩ = some (.string (mkB a.name)) := (hB.cell (p := ⟨g, off + k * 2, none⟩) hg).trans x1
        have z2 : wr.cell? ⟨g, off + k * 2 + 1, none⟩ = some (.string (mkB a.value)) := (hB.cell (p := ⟨g, off + k * 2 + 1, none⟩) hg).trans x2
        have LT0 : Hid (g < wr.heap.size) := Lib.hid (by omega)
        have HB0 := Lib.hid hB
        clear hjn hM hsm n1 n2 x1 x2
        by_cases h0 : k = 0
        · have g2 : decide (0 < k) = false := by simp; omega
          have HF : Hid (∀ O3 : ByteArray, O3 = O ++ mkB (putStr a.name) ++ ⟨#[32]⟩ ++ mkB (putStr a.value) → O3.data.toList = 40 :: joinB (wordsP (l.take (k + 1)))) := Lib.hid (fun O3 h => by
            rw [h, HJ0.out, mkB_list, HO.out, HJN.out, if_pos h0, h0]
            simp [wordsP, joinB])
          clear h0 HO HJN HJ0
          generalize mkB (putStr a.name) = S1 at PN m1 HF
          generalize mkB (putStr a.value) = S2 at PV m2 HF
          generalize mkB a.name = nm at PN z1
          generalize mkB a.value = vl at PV z2
          have s1 : ¬ 9223372036854775807 < O.size + S1.size := by omega
          have s2 : ¬ 9223372036854775807 < O.size + S1.size + 1 := by omega
          have s3 : ¬ 9223372036854775807 < O.size + S1.size + 1 + S2.size := by omega
          go_wp2_with fail
          go_region_held3 (fun w' => w'.cell? ⟨g, off + k * 2, none⟩ = some (.string nm) ∧ w'.cell? ⟨g, off + k * 2 + 1, none⟩ = some (.string vl)) (first | go_keep | exact ⟨a0, a1⟩ | exact ⟨b0, b1⟩) (first | (go_at_call 10; refine (PN.out _).mono ?_; rintro e w1 ⟨rfl, hB1⟩; have a0 : w1.cell? ⟨g, off + k * 2, none⟩ = some (.string nm) := (hB1.cell (p := ⟨g, off + k * 2, none⟩) LT0.out).trans z1; have a1 : w1.cell? ⟨g, off + k * 2 + 1, none⟩ = some (.string vl) := (hB1.cell (p := ⟨g, off + k * 2 + 1, none⟩) LT0.out).trans z2; have LT1 := Lib.hid (Nat.lt_of_lt_of_le LT0.out hB1.size); have HB1 := Lib.hid (HB0.out.drew.trans (hB1.mono HB0.out.size)); clear hB1 PN) | (go_at_call 10; refine (PV.out _).mono ?_; rintro e w2 ⟨rfl, hB2⟩; have b0 : w2.cell? ⟨g, off + k * 2, none⟩ = some (.string nm) := (hB2.cell (p := ⟨g, off + k * 2, none⟩) LT1.out).trans a0; have b1 : w2.cell? ⟨g, off + k * 2 + 1, none⟩ = some (.string vl) := (hB2.cell (p := ⟨g, off + k * 2 + 1, none⟩) LT1.out).trans a1; have HB2 := Lib.hid (HB1.out.trans (hB2.mono HB1.out.size)); clear hB2))
          go_wp2_with fail
          go_roundw
          case rel => exact ⟨k + 1, _, by omega, by go_num, rfl, Lib.hid (HF.out _ rfl), HB2.out⟩
          case measure => simp [intOf]; omega
        · have g2 : decide (0 < k) = true := by simp; omega
          have HF : Hid (∀ O3 : ByteArray, O3 = O ++ ⟨#[32]⟩ ++ mkB (putStr a.name) ++ ⟨#[32]⟩ ++ mkB (putStr a.value) → O3.data.toList = 40 :: joinB (wordsP (l.take (k + 1)))) := Lib.hid (fun O3 h => by
            rw [h, HJ0.out, mkB_list, HJN.out, if_neg h0, ByteArray.data_append, Array.toList_append, HO.out]
            simp)
          clear h0 HO HJN HJ0
          generalize mkB (putStr a.name) = S1 at PN m1 HF
          generalize mkB (putStr a.value) = S2 at PV m2 HF
          generalize mkB a.name = nm at PN z1
          generalize mkB a.value = vl at PV z2
          have s0 : ¬ 9223372036854775807 < O.size + 1 := by omega
          have s1 : ¬ 9223372036854775807 < O.size + 1 + S1.size := by omega
          have s2 : ¬ 9223372036854775807 < O.size + 1 + S1.size + 1 := by omega
          have s3 : ¬ 9223372036854775807 < O.size + 1 + S1.size + 1 + S2.size := by omega
          go_wp2_with fail
          go_region_held3 (fun w' => w'.cell? ⟨g, off + k * 2, none⟩ = some (.string nm) ∧ w'.cell? ⟨g, off + k * 2 + 1, none⟩ = some (.string vl)) (first | go_keep | exact ⟨a0, a1⟩ | exact ⟨b0, b1⟩) (first | (go_at_call 10; refine (PN.out _).mono ?_; rintro e w1 ⟨rfl, hB1⟩; have a0 : w1.cell? ⟨g, off + k * 2, none⟩ = some (.string nm) := (hB1.cell (p := ⟨g, off + k * 2, none⟩) LT0.out).trans z1; have a1 : w1.cell? ⟨g, off + k * 2 + 1, none⟩ = some (.string vl) := (hB1.cell (p := ⟨g, off + k * 2 + 1, none⟩) LT0.out).trans z2; have LT1 := Lib.hid (Nat.lt_of_lt_of_le LT0.out hB1.size); have HB1 := Lib.hid (HB0.out.drew.trans (hB1.mono HB0.out.size)); clear hB1 PN) | (go_at_call 10; refine (PV.out _).mono ?_; rintro e w2 ⟨rfl, hB2⟩; have b0 : w2.cell? ⟨g, off + k * 2, none⟩ = some (.string nm) := (hB2.cell (p := ⟨g, off + k * 2, none⟩) LT1.out).trans a0; have b1 : w2.cell? ⟨g, off + k * 2 + 1, none⟩ = some (.string vl) := (hB2.cell (p := ⟨g, off + k * 2 + 1, none⟩) LT1.out).trans a1; have HB2 := Lib.hid (HB1.out.trans (hB2.mono HB1.out.size)); clear hB2))
          go_wp2_with fail
          go_roundw
          case rel => exact ⟨k + 1, _, by omega, by go_num, rfl, Lib.hid (HF.out _ rfl), HB2.out⟩
          case measure => simp [intOf]; omega
      · obtain rfl : k = l.length := by omega
        have g1 : decide ((l.length : Int) < (l.length : Int)) = false := by simp
        have s1 : ¬ 9223372036854775807 < O.size + 1 := by omega
        have hE : O ++ ⟨#[41]⟩ = mkB (40 :: joinB (wordsP l) ++ [41]) := by
          apply ByteArray.ext
          apply Array.ext'
          rw [ByteArray.data_append, Array.toList_append, HO.out, List.take_length]
          rfl
        clear HO
        go_wp2_with fail
        go_ret
        exact ⟨rfl, hB⟩
end Go.Proofs.YtgebkpnieailbaaDoor
