/-
  Delimiters: the walk of impl's readDelim.
-/
import Derived.Test.YtjleadlecdcdeaaCrs
import Derived.Test.YtjleadlecdcdeaaDlJ
import Derived.Test.YtjleadlecdcdeaaDlS
import Derived.Test.YtjleadlecdcdeaaThree
import Derived.Test.YtjleadlecdcdeaaAppB
namespace Go.Proofs.Ytjleadlecdcdeaa
set_option linter.unusedVariables false
open Go.RowKit

theorem blank_any (b : UInt8) (w : World) : Calls Try.prog 80 #[.int .u8 b.toNat] w fun e w' => e = .returned (.bool (blankB b)) ∧ w = w' := by
  cases h : blankB b with
  | true =>
    rcases (blankB_iff b).1 h with h1 | h1
    · rw [h1]
      go_enter Try.func80, Try.ntmps80
      go_wp2_with fail
      go_ret
      exact ⟨rfl, rfl⟩
    · rw [h1]
      go_enter Try.func80, Try.ntmps80
      go_wp2_with fail
      go_ret
      exact ⟨rfl, rfl⟩
  | false =>
    have hn : ¬ (b.toNat = 32 ∨ b.toNat = 9) := fun q => by rw [(blankB_iff b).2 q] at h; cases h
    have g1 : ((b.toNat : Int) == 32) = false := by rw [beq_eq_false_iff_ne]; omega
    have g2 : ((b.toNat : Int) == 9) = false := by rw [beq_eq_false_iff_ne]; omega
    go_enter Try.func80, Try.ntmps80
    go_wp2_with fail
    go_ret
    exact ⟨rfl, rfl⟩
theorem fits_blank : Fits 80 blankB := ⟨blank_any, enters_of Try.func80 (by kernel_rfl) rfl⟩

/-- While a delimiter is read: the cursor, the result's block. -/
structure RdW (w W : World) (T : ByteArray) (k : Nat) : Prop where
  crs : Crs W (w.heap.size + 1) T k
  res : W.heap[w.heap.size]? = some (.cells #[.int .i64 0, .int .i64 0, .int .i64 0] 40 (0, 0))
  bel : Below w.heap.size w W
theorem RdW.step {w W W' : World} {T : ByteArray} {k j : Nat} (h : RdW w W T k) (hc : Crs W' (w.heap.size + 1) T j) (hg : W.grownBy W' (some (w.heap.size + 1))) : RdW w W' T j :=
  ⟨hc, (hg.block _ (Array.getElem?_eq_some_iff.1 h.res).1 (by simp)).trans h.res, h.bel.grown hg h.bel.size (fun k e => by injection e; omega)⟩
theorem RdW.start (w : World) (T : ByteArray) (k : Nat) (hk : k ≤ T.size) (hT : T.size ≤ 1048576) : RdW w ((w.alloc (.cells #[.int .i64 0, .int .i64 0, .int .i64 0] 40)).alloc (.cells #[.string T, .int .i64 (k : Int)] 118)) T k := by
  have s1 : (w.alloc (.cells #[.int .i64 0, .int .i64 0, .int .i64 0] 40)).heap.size = w.heap.size + 1 := by simp
  refine ⟨⟨?_, hk, hT⟩, ?_, ((Below.refl _ _).alloc (Nat.le_refl _) _).alloc (by simp) _⟩
  · rw [← s1]
    exact alloc_new _ _ _
  · rw [Below.heap_alloc _ _ _ (by omega)]
    exact new_three _ _ _ _ _

set_option maxRecDepth 100000 in
set_option maxHeartbeats 2000000 in
theorem readDelim_any (T : ByteArray) (a : Nat) (st : ByteArray) (w : World) (hT : T.size ≤ 1048576) (ha : a ≤ T.size) (hst : st.size ≤ 72) :
    Calls Try.prog 50 #[.string T, .int .i64 (a : Int), .string st] w fun e w' => e = .returned (dlV (rdD T.data.toList a st.data.toList)) ∧ Below w.heap.size w w' := by
  obtain ⟨V, hV⟩ : ∃ V, dlV (rdD T.data.toList a st.data.toList) = V := ⟨_, rfl⟩
  rw [hV]
  unfold rdD at hV
  have R0 := Lib.hid (RdW.start w T a ha hT)
  have hl : T.data.toList.length = T.size := by simp
  have hsl : st.data.toList.length = st.size := by simp
  rw [hsl] at hV
  have S1 := Lib.hid (fun (W : World) (h : RdW w W T a) (hp : Lib.hasPrefix (T.data.toList.drop a) st.data.toList = true) => cskip_yes h.crs st (by rw [Lib.extract_to_end]; exact hp))
  have S0 := Lib.hid (fun (W : World) (h : RdW w W T a) (hp : Lib.hasPrefix (T.data.toList.drop a) st.data.toList = false) => cskip_no h.crs st (by rw [Lib.extract_to_end]; exact hp))
  have D1 := Lib.hid (fun (W : World) (k : Nat) (h : RdW w W T k) (hp : Lib.hasPrefix (T.data.toList.drop k) [45, 45] = true) => cskip_yes h.crs ⟨#[45, 45]⟩ (by rw [Lib.extract_to_end]; exact hp))
  have D0 := Lib.hid (fun (W : World) (k : Nat) (h : RdW w W T k) (hp : Lib.hasPrefix (T.data.toList.drop k) [45, 45] = false) => cskip_no h.crs ⟨#[45, 45]⟩ (by rw [Lib.extract_to_end]; exact hp))
  have L1 := Lib.hid (fun (W : World) (k : Nat) (h : RdW w W T k) (hp : Lib.hasPrefix (T.data.toList.drop k) [13, 10] = true) => cskip_yes h.crs ⟨#[13, 10]⟩ (by rw [Lib.extract_to_end]; exact hp))
  have L0 := Lib.hid (fun (W : World) (k : Nat) (h : RdW w W T k) (hp : Lib.hasPrefix (T.data.toList.drop k) [13, 10] = false) => cskip_no h.crs ⟨#[13, 10]⟩ (by rw [Lib.extract_to_end]; exact hp))
  have RN := Lib.hid (fun (W : World) (k : Nat) (h : RdW w W T k) => crun_any 80 blankB fits_blank h.crs)
  have TL := Lib.hid hl
  clear hl hsl
  go_enter Try.func50, Try.ntmps50
  go_wp2_with fail
  obtain ⟨w1, hw1⟩ : ∃ x, ((w.alloc (.cells #[.int .i64 0, .int .i64 0, .int .i64 0] 40)).alloc (.cells #[.string T, .int .i64 (a : Int)] 118)) = x := ⟨_, rfl⟩
  rw [hw1] at R0 ⊢
  clear hw1
  cases h1 : Lib.hasPrefix (T.data.toList.drop a) st.data.toList with
  | false =>
    rw [if_neg (by rw [h1]; simp)] at hV
    have HV : Hid (.tuple #[.agg #[.int .i64 0, .int .i64 0, .int .i64 0], .bool false] = V) := Lib.hid (by rw [← hV]; rfl)
    clear hV
    refine (S0.out _ R0.out h1).mono ?_
    rintro e w2 ⟨rfl, hc2, hg2⟩
    have R2 := Lib.hid (R0.out.step hc2 hg2)
    clear hc2 hg2 h1
    obtain ⟨_, _, _⟩ := three_cells R2.out.res
    obtain ⟨_, _, _⟩ := three_free R2.out.res
    obtain ⟨_, _, _⟩ := R2.out.crs.cells
    go_wp2_with fail
    have q := three_cells (set_three R2.out.res (.int .i64 0) (.int .i64 0) (.int .i64 0))
    refine bodyPost_ret (v := .tuple #[.agg #[.int .i64 0, .int .i64 0, .int .i64 0], .bool false]) (by simp [results, Try.results50, go_sem, q.1, q.2.1, q.2.2]) rfl ⟨by rw [← HV.out], ?_⟩
    exact below_three R2.out.bel (Nat.le_refl _) _ _ _
  | true =>
    rw [if_pos h1] at hV
    refine (S1.out _ R0.out h1).mono ?_
    rintro e w2 ⟨rfl, hc2, hg2⟩
    have R2 := Lib.hid (R0.out.step hc2 hg2)
    clear hc2 hg2 h1
    cases h2 : Lib.hasPrefix (T.data.toList.drop (a + st.size)) [45, 45] with
    | true =>
      rw [if_pos h2] at hV
      go_wp2_with fail
      refine (D1.out _ _ R2.out h2).mono ?_
      rintro e w3 ⟨rfl, hc3, hg3⟩
      have R3 := Lib.hid (R2.out.step hc3 hg3)
      clear hc3 hg3 h2
      change Hid (RdW w w3 T (a + st.size + 2)) at R3
      unfold endD at hV
      rw [TL.out] at hV
      go_wp2_with fail
      refine (RN.out _ _ R3.out).mono ?_
      rintro e w4 ⟨rfl, hc4, hg4⟩
      have R4 := Lib.hid (R3.out.step hc4 hg4)
      have hke := runP_le blankB T.data.toList T.size (a + st.size + 2) (by rw [TL.out]; exact R3.out.crs.le)
      rw [TL.out] at hke
      clear hc4 hg4
      generalize runP blankB T.data.toList T.size (a + st.size + 2) = K at *
      generalize T.extract (a + st.size + 2) K = piece at *
      cases h3 : Lib.hasPrefix (T.data.toList.drop K) [13, 10] with
      | true =>
        rw [if_pos h3] at hV
        have HV : Hid (.tuple #[.agg #[.int .i64 (a : Int), .int .i64 ((K + 2 : Nat) : Int), .int .i64 1], .bool true] = V) := Lib.hid (by rw [← hV]; rfl)
        have HP := Lib.hid h3
        clear hV h3
        go_wp2_with fail
        refine (L1.out _ _ R4.out HP.out).mono ?_
        rintro e w5 ⟨rfl, hc5, hg5⟩
        have R5 := Lib.hid (R4.out.step hc5 hg5)
        clear hc5 hg5
        change Hid (RdW w w5 T (K + 2)) at R5
        obtain ⟨K2, hK2⟩ : ∃ K2 : Nat, K + 2 = K2 := ⟨_, rfl⟩
        rw [hK2] at R5 HV
        clear hK2
        obtain ⟨_, _, _⟩ := three_cells R5.out.res
        obtain ⟨_, _, _⟩ := three_free R5.out.res
        obtain ⟨_, _, _⟩ := R5.out.crs.cells
        go_wp2_with fail
        have q := three_cells (set_three R5.out.res (.int .i64 (a : Int)) (.int .i64 (K2 : Int)) (.int .i64 1))
        refine bodyPost_ret (v := .tuple #[.agg #[.int .i64 (a : Int), .int .i64 (K2 : Int), .int .i64 1], .bool true]) (by simp [results, Try.results50, go_sem, q.1, q.2.1, q.2.2]) rfl ⟨by rw [← HV.out], ?_⟩
        exact below_three R5.out.bel (Nat.le_refl _) _ _ _
      | false =>
        rw [if_neg (by rw [h3]; simp)] at hV
        have HP := Lib.hid h3
        clear h3
        by_cases h4 : K < T.size
        · rw [if_pos h4] at hV
          have g4 : decide ((K : Int) < (T.size : Int)) = true := by simp; omega
          have HV : Hid (.tuple #[.agg #[.int .i64 0, .int .i64 0, .int .i64 0], .bool false] = V) := Lib.hid (by rw [← hV]; rfl)
          clear hV
          go_wp2_with fail
          refine (L0.out _ _ R4.out HP.out).mono ?_
          rintro e w5 ⟨rfl, hc5, hg5⟩
          have R5 := Lib.hid (R4.out.step hc5 hg5)
          clear hc5 hg5
          obtain ⟨_, _, _⟩ := three_cells R5.out.res
          obtain ⟨_, _, _⟩ := three_free R5.out.res
          obtain ⟨_, _, _⟩ := R5.out.crs.cells
          go_wp2_with fail
          have q := three_cells (set_three R5.out.res (.int .i64 0) (.int .i64 0) (.int .i64 0))
          refine bodyPost_ret (v := .tuple #[.agg #[.int .i64 0, .int .i64 0, .int .i64 0], .bool false]) (by simp [results, Try.results50, go_sem, q.1, q.2.1, q.2.2]) rfl ⟨by rw [← HV.out], ?_⟩
          exact below_three R5.out.bel (Nat.le_refl _) _ _ _
        · rw [if_neg h4] at hV
          have g4 : decide ((K : Int) < (T.size : Int)) = false := by simp; omega
          have g5 : T.size ≤ K := by omega
          have HV : Hid (.tuple #[.agg #[.int .i64 (a : Int), .int .i64 (K : Int), .int .i64 1], .bool true] = V) := Lib.hid (by rw [← hV]; rfl)
          clear hV
          go_wp2_with fail
          refine (L0.out _ _ R4.out HP.out).mono ?_
          rintro e w5 ⟨rfl, hc5, hg5⟩
          have R5 := Lib.hid (R4.out.step hc5 hg5)
          clear hc5 hg5
          obtain ⟨_, _, _⟩ := three_cells R5.out.res
          obtain ⟨_, _, _⟩ := three_free R5.out.res
          obtain ⟨_, _, _⟩ := R5.out.crs.cells
          go_wp2_with fail
          have q := three_cells (set_three R5.out.res (.int .i64 (a : Int)) (.int .i64 (K : Int)) (.int .i64 1))
          refine bodyPost_ret (v := .tuple #[.agg #[.int .i64 (a : Int), .int .i64 (K : Int), .int .i64 1], .bool true]) (by simp [results, Try.results50, go_sem, q.1, q.2.1, q.2.2]) rfl ⟨by rw [← HV.out], ?_⟩
          exact below_three R5.out.bel (Nat.le_refl _) _ _ _
    | false =>
      rw [if_neg (by rw [h2]; simp)] at hV
      go_wp2_with fail
      refine (D0.out _ _ R2.out h2).mono ?_
      rintro e w3 ⟨rfl, hc3, hg3⟩
      have R3 := Lib.hid (R2.out.step hc3 hg3)
      clear hc3 hg3 h2
      unfold endD at hV
      rw [TL.out] at hV
      go_wp2_with fail
      refine (RN.out _ _ R3.out).mono ?_
      rintro e w4 ⟨rfl, hc4, hg4⟩
      have R4 := Lib.hid (R3.out.step hc4 hg4)
      have hke := runP_le blankB T.data.toList T.size (a + st.size) (by rw [TL.out]; exact R3.out.crs.le)
      rw [TL.out] at hke
      clear hc4 hg4
      generalize runP blankB T.data.toList T.size (a + st.size) = K at *
      generalize T.extract (a + st.size) K = piece at *
      cases h3 : Lib.hasPrefix (T.data.toList.drop K) [13, 10] with
      | true =>
        rw [if_pos h3] at hV
        have HV : Hid (.tuple #[.agg #[.int .i64 (a : Int), .int .i64 ((K + 2 : Nat) : Int), .int .i64 0], .bool true] = V) := Lib.hid (by rw [← hV]; rfl)
        have HP := Lib.hid h3
        clear hV h3
        go_wp2_with fail
        refine (L1.out _ _ R4.out HP.out).mono ?_
        rintro e w5 ⟨rfl, hc5, hg5⟩
        have R5 := Lib.hid (R4.out.step hc5 hg5)
        clear hc5 hg5
        change Hid (RdW w w5 T (K + 2)) at R5
        obtain ⟨K2, hK2⟩ : ∃ K2 : Nat, K + 2 = K2 := ⟨_, rfl⟩
        rw [hK2] at R5 HV
        clear hK2
        obtain ⟨_, _, _⟩ := three_cells R5.out.res
        obtain ⟨_, _, _⟩ := three_free R5.out.res
        obtain ⟨_, _, _⟩ := R5.out.crs.cells
        go_wp2_with fail
        have q := three_cells (set_three R5.out.res (.int .i64 (a : Int)) (.int .i64 (K2 : Int)) (.int .i64 0))
        refine bodyPost_ret (v := .tuple #[.agg #[.int .i64 (a : Int), .int .i64 (K2 : Int), .int .i64 0], .bool true]) (by simp [results, Try.results50, go_sem, q.1, q.2.1, q.2.2]) rfl ⟨by rw [← HV.out], ?_⟩
        exact below_three R5.out.bel (Nat.le_refl _) _ _ _
      | false =>
        rw [if_neg (by rw [h3]; simp)] at hV
        have HP := Lib.hid h3
        clear h3
        by_cases h4 : K < T.size
        · rw [if_pos h4] at hV
          have g4 : decide ((K : Int) < (T.size : Int)) = true := by simp; omega
          have HV : Hid (.tuple #[.agg #[.int .i64 0, .int .i64 0, .int .i64 0], .bool false] = V) := Lib.hid (by rw [← hV]; rfl)
          clear hV
          go_wp2_with fail
          refine (L0.out _ _ R4.out HP.out).mono ?_
          rintro e w5 ⟨rfl, hc5, hg5⟩
          have R5 := Lib.hid (R4.out.step hc5 hg5)
          clear hc5 hg5
          obtain ⟨_, _, _⟩ := three_cells R5.out.res
          obtain ⟨_, _, _⟩ := three_free R5.out.res
          obtain ⟨_, _, _⟩ := R5.out.crs.cells
          go_wp2_with fail
          have q := three_cells (set_three R5.out.res (.int .i64 0) (.int .i64 0) (.int .i64 0))
          refine bodyPost_ret (v := .tuple #[.agg #[.int .i64 0, .int .i64 0, .int .i64 0], .bool false]) (by simp [results, Try.results50, go_sem, q.1, q.2.1, q.2.2]) rfl ⟨by rw [← HV.out], ?_⟩
          exact below_three R5.out.bel (Nat.le_refl _) _ _ _
        · rw [if_neg h4] at hV
          have g4 : decide ((K : Int) < (T.size : Int)) = false := by simp; omega
          have g5 : T.size ≤ K := by omega
          have HV : Hid (.tuple #[.agg #[.int .i64 (a : Int), .int .i64 (K : Int), .int .i64 0], .bool true] = V) := Lib.hid (by rw [← hV]; rfl)
          clear hV
          go_wp2_with fail
          refine (L0.out _ _ R4.out HP.out).mono ?_
          rintro e w5 ⟨rfl, hc5, hg5⟩
          have R5 := Lib.hid (R4.out.step hc5 hg5)
          clear hc5 hg5
          obtain ⟨_, _, _⟩ := three_cells R5.out.res
          obtain ⟨_, _, _⟩ := three_free R5.out.res
          obtain ⟨_, _, _⟩ := R5.out.crs.cells
          go_wp2_with fail
          have q := three_cells (set_three R5.out.res (.int .i64 (a : Int)) (.int .i64 (K : Int)) (.int .i64 0))
          refine bodyPost_ret (v := .tuple #[.agg #[.int .i64 (a : Int), .int .i64 (K : Int), .int .i64 0], .bool true]) (by simp [results, Try.results50, go_sem, q.1, q.2.1, q.2.2]) rfl ⟨by rw [← HV.out], ?_⟩
          exact below_three R5.out.bel (Nat.le_refl _) _ _ _
end Go.Proofs.Ytjleadlecdcdeaa
