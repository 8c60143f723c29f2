import Derived.Test.YtjleadlecdcdeaaDoorMg1
/-
  The law FnKind, for every code.
-/
namespace Go.Proofs.YtjleadlecdcdeaaDoor
set_option linter.unusedVariables false
open Go.RowKit

theorem more_lit : (⟨#[59, 32, 122, 122, 61, 34, 113, 32, 114, 34]⟩ : ByteArray) = one 59 ++ moreT := by kernel_rfl
theorem kdL_some {s : List UInt8} {k : Kd} (h : kindOf s = some k) : kdL (kindOf s) = k.params ∧ kdT (kindOf s) = mkB k.type ∧ kdU (kindOf s) = mkB k.sub := by rw [h]; exact ⟨rfl, rfl, rfl⟩

set_option maxRecDepth 100000 in
set_option maxHeartbeats 4000000 in
theorem lawKind_walk (IK : KindIs) (a0 : Option Addr) (len0 cap0 : Nat) (z0 : List Int) (w : World) (w0 : IsRow .u8 w a0 len0 cap0 z0) (hsh : w.ShapedOpen Tryd.prog) :
    Calls Tryd.prog 3 #[.slice a0 len0 cap0] w fun e w' => e = .returned (.bool true) ∧ Below w.heap.size w w' := by
  have W0 := Lib.hid w0
  have hM := maxLenAt_of_shaped hsh
  have HM := Lib.hid (fun W (h : Below w.heap.size w W) => hM.after h)
  clear w0 hsh hM
  by_cases hl : len0 ≤ 1048576
  · go_enter Tryd.func3, Tryd.ntmps3
    go_wp2_with fail
    refine (big_no _ _ _ _ hl).mono ?_
    rintro e w1 ⟨rfl, rfl⟩
    go_wp2_with fail
    refine (drawReadKind_any ⟨a0, len0, cap0, z0⟩ w1 w1 W0.out hl (Below.refl _ _)).mono ?_
    rintro e w2 ⟨s, rfl, hs, hB2⟩
    have B2 := Lib.hid hB2
    clear hB2
    have H1 := Lib.hid (fun w => (specReadKind_any s w (by omega)).mono (fun e w' h => givesKd_one h))
    have H2 := Lib.hid (fun W (h : Below w1.heap.size w1 W) => (IK s W (by omega) (HM.out _ h)).mono (fun e w' h => givesKd_one h))
    have hn := kdL_len s
    have hnm := kdL_names s
    have HO : Hid (kindOf s.data.toList = kindOf s.data.toList) := Lib.hid rfl
    obtain ⟨O, hO⟩ : ∃ O, kindOf s.data.toList = O := ⟨_, rfl⟩
    rw [hO] at H1 H2 hn hnm
    have HK := Lib.hid hO
    clear hO HO
    obtain ⟨T, hT⟩ : ∃ T, kdT O = T := ⟨_, rfl⟩
    obtain ⟨U, hU⟩ : ∃ U, kdU O = U := ⟨_, rfl⟩
    obtain ⟨ok, hok⟩ : ∃ ok, O.isSome = ok := ⟨_, rfl⟩
    obtain ⟨l, hll⟩ : ∃ l, kdL O = l := ⟨_, rfl⟩
    rw [hT, hU, hok, hll] at H1 H2
    rw [hll] at hn hnm
    have HT := Lib.hid hT
    have HU := Lib.hid hU
    have HOK := Lib.hid hok
    have HLL := Lib.hid hll
    clear hT hU hok hll
    have hn2 : l.length ≤ 4294967296 := by omega
    have gk : (ok != ok) = false := by simp
    go_wp2_with fail
    refine (H2.out _ B2.out).mono ?_
    rintro e w3 ⟨vb, rfl, hrb, hB3⟩
    obtain ⟨pb, cb, rfl⟩ := row_slice hrb
    have D3 : Below w3.heap.size w3 (w3.alloc (.cells #[.string T, .string U, .slice pb l.length cb] 27)) := (Below.refl _ _).alloc (Nat.le_refl _) _
    have N3 := Lib.hid (new_three w3 (.string T) (.string U) (.slice pb l.length cb) 27)
    have E3 := hB3.trans (D3.mono hB3.size)
    have R3 := Lib.hid (row_lat hrb D3)
    have B3 := Lib.hid (B2.out.trans (E3.mono B2.out.size))
    clear hrb hB3 D3 E3
    go_wp2_with fail
    obtain ⟨v3, hv3⟩ : ∃ x, w3.alloc (.cells #[.string T, .string U, .slice pb l.length cb] 27) = x := ⟨_, rfl⟩
    rw [hv3] at N3 R3 B3 ⊢
    obtain ⟨K4, hK4⟩ : ∃ K4, w3.heap.size = K4 := ⟨_, rfl⟩
    rw [hK4] at N3 ⊢
    clear hv3 hK4
    refine (H1.out _).mono ?_
    rintro e w4 ⟨va, rfl, hra, hB4⟩
    obtain ⟨pa, ca, rfl⟩ := row_slice hra
    have D4 : Below w4.heap.size w4 (w4.alloc (.cells #[.string T, .string U, .slice pa l.length ca] 27)) := (Below.refl _ _).alloc (Nat.le_refl _) _
    have E4 := hB4.trans (D4.mono hB4.size)
    have RA4 := Lib.hid (row_lat hra D4)
    have R4 := Lib.hid (row_lat R3.out E4)
    have N4 := Lib.hid ((E4.block _ (Array.getElem?_eq_some_iff.1 N3.out).1).trans N3.out)
    have B4 := Lib.hid (B3.out.trans (E4.mono B3.out.size))
    obtain ⟨_, _, _⟩ := three_cells N4.out
    clear hra hB4 D4 E4
    go_wp2_with fail
    obtain ⟨v4, hv4⟩ : ∃ x, w4.alloc (.cells #[.string T, .string U, .slice pa l.length ca] 27) = x := ⟨_, rfl⟩
    rw [hv4] at RA4 R4 N4 B4 ⊢
    clear hv4
    refine (sameKd_yes T U _ _ l v4 (prs_of_row R4.out) (prs_of_row RA4.out) hn2).mono ?_
    rintro e w5 ⟨rfl, hB5⟩
    have R5 := Lib.hid (row_lat R4.out hB5)
    have N5 := Lib.hid ((hB5.block _ (Array.getElem?_eq_some_iff.1 N4.out).1).trans N4.out)
    have B5 := Lib.hid (B4.out.trans (hB5.mono B4.out.size))
    clear hB5
    go_wp2_with fail
    refine (drawParamOf_any ⟨a0, len0, cap0, z0⟩ w1 w5 W0.out hl B5.out).mono ?_
    rintro e w6 ⟨T2, U2, v2, l2, nm, rfl, hp2, hl2, hx2, hnm2, hB6⟩
    obtain ⟨p2, c2, rfl⟩ := hp2.slice
    have D6 : Below w6.heap.size w6 (w6.alloc (.cells #[.string T2, .string U2, .slice p2 l2.length c2] 27)) := (Below.refl _ _).alloc (Nat.le_refl _) _
    have M6 := Lib.hid (new_three w6 (.string T2) (.string U2) (.slice p2 l2.length c2) 27)
    have E6 := hB6.trans (D6.mono hB6.size)
    have P6 := Lib.hid (hp2.later D6 (Nat.le_refl _))
    have R6 := Lib.hid (row_lat R5.out E6)
    have N6 := Lib.hid ((E6.block _ (Array.getElem?_eq_some_iff.1 N5.out).1).trans N5.out)
    have B6 := Lib.hid (B5.out.trans (E6.mono B5.out.size))
    have PI := Lib.hid (fun w hv => implParamOf_any T2 U2 (.slice p2 l2.length c2) l2 nm w hv (by unfold maxLen; omega) (fun f hf => by have := hx2 f hf; unfold maxLen; omega) (by omega))
    have PS := Lib.hid (fun w hv => specParamOf_any T2 U2 (.slice p2 l2.length c2) l2 nm w hv (by unfold maxLen; omega) (fun f hf => by have := hx2 f hf; unfold maxLen; omega) (by omega))
    generalize paramAt nm.data.toList l2 = R at PI PS
    obtain ⟨sv, okp, hV⟩ : ∃ (sv : ByteArray) (okp : Bool), poV R = .tuple #[.string sv, .bool okp] := by
      cases R with
      | none => exact ⟨_, _, rfl⟩
      | some b => exact ⟨_, _, rfl⟩
    rw [hV] at PI PS
    have gp : (sv.toList != sv.toList) = false := by simp
    have gq : (okp != okp) = false := by simp
    clear hp2 hB6 D6 E6 hV hx2
    go_wp2_with fail
    obtain ⟨v6, hv6⟩ : ∃ x, w6.alloc (.cells #[.string T2, .string U2, .slice p2 l2.length c2] 27) = x := ⟨_, rfl⟩
    rw [hv6] at M6 P6 R6 N6 B6 ⊢
    obtain ⟨K6, hK6⟩ : ∃ K6, w6.heap.size = K6 := ⟨_, rfl⟩
    rw [hK6] at M6 ⊢
    clear hv6 hK6
    refine (PI.out _ P6.out).mono ?_
    rintro e w7 ⟨rfl, hB7⟩
    have P7 := Lib.hid (P6.out.later hB7 (Nat.le_refl _))
    have R7 := Lib.hid (row_lat R6.out hB7)
    have N7 := Lib.hid ((hB7.block _ (Array.getElem?_eq_some_iff.1 N6.out).1).trans N6.out)
    have M7 := Lib.hid ((hB7.block _ (Array.getElem?_eq_some_iff.1 M6.out).1).trans M6.out)
    have B7 := Lib.hid (B6.out.trans (hB7.mono B6.out.size))
    obtain ⟨_, _, _⟩ := three_cells M7.out
    clear hB7
    go_wp2_with fail
    refine (PS.out _ P7.out).mono ?_
    rintro e w8 ⟨rfl, hB8⟩
    have R8 := Lib.hid (row_lat R7.out hB8)
    have N8 := Lib.hid ((hB8.block _ (Array.getElem?_eq_some_iff.1 N7.out).1).trans N7.out)
    have B8 := Lib.hid (B7.out.trans (hB8.mono B7.out.size))
    obtain ⟨_, _, _⟩ := three_cells N8.out
    clear hB8
    cases ok with
    | false =>
      have hO : O = none := by
        cases O with
        | none => rfl
        | some k => have := HOK.out; cases this
      have hT0 : T = ⟨#[]⟩ := by rw [← HT.out, hO]; rfl
      have hl0 : l.length = 0 := by rw [← HLL.out, hO]; rfl
      have gT : T.toList = [] := by rw [hT0, Lib.toList_data]
      have gl : ((l.length : Int) == 0) = true := by rw [hl0]; rfl
      clear hO hT0 hl0
      go_wp2_with fail
      go_ret
      exact ⟨rfl, B8.out⟩
    | true =>
      obtain ⟨k, hk⟩ : ∃ k, O = some k := by
        cases O with
        | none => have := HOK.out; cases this
        | some k => exact ⟨k, rfl⟩
      have hks : kindOf s.data.toList = some k := by rw [HK.out, hk]
      have hT1 : T = mkB k.type := by rw [← HT.out, hk]; rfl
      have hU1 : U = mkB k.sub := by rw [← HU.out, hk]; rfl
      have hl1 : l = k.params := by rw [← HLL.out, hk]; rfl
      obtain ⟨u1, u2, u3, u4, u5, u6⟩ := kind_great _ _ hks
      have hmore := kindOf_more s k hks
      rw [← hl1] at hmore
      obtain ⟨zv, hz1, hz2⟩ := more_at l
      obtain ⟨s9, hs9⟩ : ∃ s9, s ++ (⟨#[59, 32, 122, 122, 61, 34, 113, 32, 114, 34]⟩ : ByteArray) = s9 := ⟨_, rfl⟩
      have hs9z : s9.size ≤ 510 := by
        rw [← hs9, ByteArray.size_append]
        have : (⟨#[59, 32, 122, 122, 61, 34, 113, 32, 114, 34]⟩ : ByteArray).size = 10 := rfl
        omega
      have q9 : ¬ 9223372036854775807 < s.size + 10 := by omega
      have hm9 : kindOf s9.data.toList = some ⟨k.type, k.sub, l ++ [moreP]⟩ := by rw [← hs9, more_lit]; exact hmore
      have H9 := Lib.hid (fun W (h : Below w1.heap.size w1 W) => (IK s9 W (by omega) (HM.out _ h)).mono (fun e w' h => givesKd_one h))
      rw [hm9] at H9
      change Hid (∀ W, Below w1.heap.size w1 W → Calls _ _ _ _ fun e w' => ∃ v, e = .returned (.tuple #[.agg #[.string (mkB k.type), .string (mkB k.sub), v], .bool true]) ∧ w'.ownsRow W.heap.size 45 2 v (l ++ [moreP]).length (prCells (l ++ [moreP])) ∧ _) at H9
      rw [← hT1, ← hU1] at H9
      have hsl : s.data.toList.length = s.size := by simp
      have UP1 := Lib.hid (fun w => implUpper_any T w (by rw [hT1, mkB_size]; unfold maxLen; omega))
      have UP2 := Lib.hid (fun w => implUpper_any U w (by rw [hU1, mkB_size]; unfold maxLen; omega))
      have e1 : (⟨(upS T.data.toList).toArray⟩ : ByteArray) = T := by rw [hT1, mkB_list, u1]; rfl
      have e2 : (⟨(upS U.data.toList).toArray⟩ : ByteArray) = U := by rw [hU1, mkB_list, u2]; rfl
      rw [e1] at UP1
      rw [e2] at UP2
      have gT : ¬ T.toList = [] := by rw [hT1, Lib.toList_data, mkB_list]; exact u3
      have gU : ¬ U.toList = [] := by rw [hU1, Lib.toList_data, mkB_list]; exact u4
      have gTT : (T.toList == T.toList) = true := by simp
      have gUU : (U.toList == U.toList) = true := by simp
      have gT2 : T.toList.isEmpty = false := by rw [List.isEmpty_eq_false_iff]; exact gT
      have gU2 : U.toList.isEmpty = false := by rw [List.isEmpty_eq_false_iff]; exact gU
      have PZ := Lib.hid (fun w v (hv : PrsAt w v (l ++ [moreP])) => implParamOf_any T U v (l ++ [moreP]) ⟨#[90, 90]⟩ w hv (by decide) (fun f hf => by
        rcases List.mem_append.1 hf with hf | hf
        · have := hnm f hf; unfold maxLen; omega
        · obtain rfl := List.mem_singleton.1 hf
          decide) (by simp; omega))
      rw [show (⟨#[90, 90]⟩ : ByteArray).data.toList = [90, 90] from rfl, hz1] at PZ
      change Hid (∀ w v, _ → Calls _ _ _ _ fun e w' => e = .returned (.tuple #[.string (mkB zv), .bool true]) ∧ _) at PZ
      obtain ⟨l9, h9⟩ : ∃ l9, l ++ [moreP] = l9 := ⟨_, rfl⟩
      have HL9 : Hid (l9.length = l.length + 1) := Lib.hid (by rw [← h9]; simp)
      rw [h9] at H9 PZ
      clear h9
      clear hk hks hT1 hU1 hl1 hsl u1 u2 u3 u4 u5 u6 hmore hm9 e1 e2 H1 H2 HK HT HU HOK HLL PI PS
      go_wp2_with fail
      refine (H9.out _ B8.out).mono ?_
      rintro e w9 ⟨v9, rfl, hr9, hB9⟩
      obtain ⟨p9, c9, rfl⟩ := row_slice hr9
      have D9 : Below w9.heap.size w9 (w9.alloc (.cells #[.string T, .string U, .slice p9 l9.length c9] 27)) := (Below.refl _ _).alloc (Nat.le_refl _) _
      have M9 := Lib.hid (new_three w9 (.string T) (.string U) (.slice p9 l9.length c9) 27)
      have E9 := hB9.trans (D9.mono hB9.size)
      have Q9 := Lib.hid (prs_of_row (row_lat hr9 D9))
      have N9 := Lib.hid ((E9.block _ (Array.getElem?_eq_some_iff.1 N8.out).1).trans N8.out)
      have B9 := Lib.hid (B8.out.trans (E9.mono B8.out.size))
      clear hr9 hB9 D9 E9 H9 hs9 q9
      go_wp2_with fail
      obtain ⟨v9, hv9⟩ : ∃ x, w9.alloc (.cells #[.string T, .string U, .slice p9 l9.length c9] 27) = x := ⟨_, rfl⟩
      rw [hv9] at M9 Q9 N9 B9 ⊢
      obtain ⟨K9, hK9⟩ : ∃ K9, w9.heap.size = K9 := ⟨_, rfl⟩
      rw [hK9] at M9 ⊢
      clear hv9 hK9
      refine (PZ.out _ _ Q9.out).mono ?_
      rintro e w10 ⟨rfl, hB10⟩
      have N10 := Lib.hid ((hB10.block _ (Array.getElem?_eq_some_iff.1 N9.out).1).trans N9.out)
      have M10 := Lib.hid ((hB10.block _ (Array.getElem?_eq_some_iff.1 M9.out).1).trans M9.out)
      have B10 := Lib.hid (B9.out.trans (hB10.mono B9.out.size))
      have SH : Hid (∀ W, Below w10.heap.size w10 W → W.cell? ⟨K4, 0, none⟩ = some (.string T) ∧ W.cell? ⟨K4, 1, none⟩ = some (.string U) ∧ W.cell? ⟨K4, 2, none⟩ = some (.slice pb l.length cb) ∧ W.cell? ⟨K9, 0, none⟩ = some (.string T) ∧ W.cell? ⟨K9, 1, none⟩ = some (.string U) ∧ W.cell? ⟨K9, 2, none⟩ = some (.slice p9 l9.length c9)) := Lib.hid (fun W h => by
        obtain ⟨x1, x2, x3⟩ := three_cells ((h.block _ (Array.getElem?_eq_some_iff.1 N10.out).1).trans N10.out)
        obtain ⟨y1, y2, y3⟩ := three_cells ((h.block _ (Array.getElem?_eq_some_iff.1 M10.out).1).trans M10.out)
        exact ⟨x1, x2, x3, y1, y2, y3⟩)
      have E10 : Below w10.heap.size w10 w10.drew := (Below.refl _ _).drew
      clear hB10 PZ
      by_cases hzq : zv = [113, 32, 114]
      · have gz : ((mkB zv).toList == [113, 32, 114]) = true := by rw [Lib.toList_data, mkB_list, hzq]; rfl
        generalize mkB zv = zz at *
        clear hzq hz1 hz2
        go_wp2_with fail
        obtain ⟨_, _, _, _, _, _⟩ := SH.out _ (Below.refl _ _)
        refine wp_region_noPanic (wp_region_held_drew (S := fun w' => w'.cell? ⟨K4, 0, none⟩ = some (.string T) ∧ w'.cell? ⟨K4, 1, none⟩ = some (.string U) ∧ w'.cell? ⟨K4, 2, none⟩ = some (.slice pb l.length cb) ∧ w'.cell? ⟨K9, 0, none⟩ = some (.string T) ∧ w'.cell? ⟨K9, 1, none⟩ = some (.string U) ∧ w'.cell? ⟨K9, 2, none⟩ = some (.slice p9 l9.length c9)) (by kernel_rfl) (SH.out _ E10) (fun hHeld => ?_))
        refine take_on (i := 0) (some 88) ?_ rfl rfl (by kernel_rfl) (by kernel_rfl) (by kernel_rfl) (fun _ _ _ h => h) (by rfl) (by assumption) ?_ ?_
        rotate_left 2
        · intro wx hSx
          (try dsimp only at hSx)
          (try obtain ⟨_, _, _, _, _, _⟩ := hSx)
          go_simp
          try with_reducible rfl
        rotate_left
        simp only [Act.put, List.setIfInBounds_toArray, List.set_cons_zero, List.set_cons_succ]
        refine take_on (i := 1) (some 89) ?_ rfl rfl (by kernel_rfl) (by kernel_rfl) (by kernel_rfl) (fun _ _ _ h => h) (by rfl) (by assumption) ?_ ?_
        rotate_left 2
        · intro wx hSx
          (try dsimp only at hSx)
          (try obtain ⟨_, _, _, _, _, _⟩ := hSx)
          go_simp
          try with_reducible rfl
        rotate_left
        simp only [Act.put, List.setIfInBounds_toArray, List.set_cons_zero, List.set_cons_succ]
        refine take_on (i := 3) (some 91) ?_ rfl rfl (by kernel_rfl) (by kernel_rfl) (by kernel_rfl) (fun _ _ _ h => h) (by rfl) (by assumption) ?_ ?_
        rotate_left 2
        · intro wx hSx
          (try dsimp only at hSx)
          (try obtain ⟨_, _, _, _, _, _⟩ := hSx)
          go_simp
          try with_reducible rfl
        rotate_left
        simp only [Act.put, List.setIfInBounds_toArray, List.set_cons_zero, List.set_cons_succ]
        refine take_on (i := 4) (some 92) ?_ rfl rfl (by kernel_rfl) (by kernel_rfl) (by kernel_rfl) (fun _ _ _ h => h) (by rfl) (by assumption) ?_ ?_
        rotate_left 2
        · intro wx hSx
          (try dsimp only at hSx)
          (try obtain ⟨_, _, _, _, _, _⟩ := hSx)
          go_simp
          try with_reducible rfl
        rotate_left
        simp only [Act.put, List.setIfInBounds_toArray, List.set_cons_zero, List.set_cons_succ]
        refine wpAnyH_ready (rs := [2]) (by kernel_rfl) (by simp) (AllReadyH.cons rfl (fun K hK => ?_) AllReadyH.nil)
        rw [if_pos (by rfl)]
        go_simp
        refine (UP1.out _).mono ?_
        rintro e wa ⟨rfl, hBu⟩
        have Ewa := Lib.hid ((E10).trans (hBu.mono (E10).size))
        clear hBu
        refine hK.out _ _ (SH.out _ Ewa.out) (fun hHeld => ?_)
        clear hK
        refine take_on (i := 5) (some 93) ?_ rfl rfl (by kernel_rfl) (by kernel_rfl) (by kernel_rfl) (fun _ _ _ h => h) (by rfl) (by assumption) ?_ ?_
        rotate_left 2
        · intro wx hSx
          (try dsimp only at hSx)
          (try obtain ⟨_, _, _, _, _, _⟩ := hSx)
          go_simp
          try with_reducible rfl
        rotate_left
        simp only [Act.put, List.setIfInBounds_toArray, List.set_cons_zero, List.set_cons_succ]
        refine take_on (i := 6) (some 94) ?_ rfl rfl (by kernel_rfl) (by kernel_rfl) (by kernel_rfl) (fun _ _ _ h => h) (by rfl) (by assumption) ?_ ?_
        rotate_left 2
        · intro wx hSx
          (try dsimp only at hSx)
          (try obtain ⟨_, _, _, _, _, _⟩ := hSx)
          go_simp
          try with_reducible rfl
        rotate_left
        simp only [Act.put, List.setIfInBounds_toArray, List.set_cons_zero, List.set_cons_succ]
        refine take_on (i := 7) (some 95) ?_ rfl rfl (by kernel_rfl) (by kernel_rfl) (by kernel_rfl) (fun _ _ _ h => h) (by rfl) (by assumption) ?_ ?_
        rotate_left 2
        · intro wx hSx
          (try dsimp only at hSx)
          (try obtain ⟨_, _, _, _, _, _⟩ := hSx)
          go_simp
          try with_reducible rfl
        rotate_left
        simp only [Act.put, List.setIfInBounds_toArray, List.set_cons_zero, List.set_cons_succ]
        refine take_on (i := 8) (some 96) ?_ rfl rfl (by kernel_rfl) (by kernel_rfl) (by kernel_rfl) (fun _ _ _ h => h) (by rfl) (by assumption) ?_ ?_
        rotate_left 2
        · intro wx hSx
          (try dsimp only at hSx)
          (try obtain ⟨_, _, _, _, _, _⟩ := hSx)
          go_simp
          try with_reducible rfl
        rotate_left
        simp only [Act.put, List.setIfInBounds_toArray, List.set_cons_zero, List.set_cons_succ]
        refine take_on (i := 10) (some 98) ?_ rfl rfl (by kernel_rfl) (by kernel_rfl) (by kernel_rfl) (fun _ _ _ h => h) (by rfl) (by assumption) ?_ ?_
        rotate_left 2
        · intro wx hSx
          (try dsimp only at hSx)
          (try obtain ⟨_, _, _, _, _, _⟩ := hSx)
          go_simp
          try with_reducible rfl
        rotate_left
        simp only [Act.put, List.setIfInBounds_toArray, List.set_cons_zero, List.set_cons_succ]
        refine take_on (i := 11) (some 99) ?_ rfl rfl (by kernel_rfl) (by kernel_rfl) (by kernel_rfl) (fun _ _ _ h => h) (by rfl) (by assumption) ?_ ?_
        rotate_left 2
        · intro wx hSx
          (try dsimp only at hSx)
          (try obtain ⟨_, _, _, _, _, _⟩ := hSx)
          go_simp
          try with_reducible rfl
        rotate_left
        simp only [Act.put, List.setIfInBounds_toArray, List.set_cons_zero, List.set_cons_succ]
        refine wpAnyH_ready (rs := [9]) (by kernel_rfl) (by simp) (AllReadyH.cons rfl (fun K hK => ?_) AllReadyH.nil)
        rw [if_pos (by rfl)]
        go_simp
        refine (UP2.out _).mono ?_
        rintro e wb ⟨rfl, hBu⟩
        have Ewb := Lib.hid ((Ewa.out).trans (hBu.mono (Ewa.out).size))
        clear hBu
        refine hK.out _ _ (SH.out _ Ewb.out) (fun hHeld => ?_)
        clear hK
        refine take_on (i := 12) (some 100) ?_ rfl rfl (by kernel_rfl) (by kernel_rfl) (by kernel_rfl) (fun _ _ _ h => h) (by rfl) (by assumption) ?_ ?_
        rotate_left 2
        · intro wx hSx
          (try dsimp only at hSx)
          (try obtain ⟨_, _, _, _, _, _⟩ := hSx)
          go_simp
          try with_reducible rfl
        rotate_left
        simp only [Act.put, List.setIfInBounds_toArray, List.set_cons_zero, List.set_cons_succ]
        refine take_on (i := 13) (some 101) ?_ rfl rfl (by kernel_rfl) (by kernel_rfl) (by kernel_rfl) (fun _ _ _ h => h) (by rfl) (by assumption) ?_ ?_
        rotate_left 2
        · intro wx hSx
          (try dsimp only at hSx)
          (try obtain ⟨_, _, _, _, _, _⟩ := hSx)
          go_simp
          try with_reducible rfl
        rotate_left
        simp only [Act.put, List.setIfInBounds_toArray, List.set_cons_zero, List.set_cons_succ]
        refine take_on (i := 14) (some 102) ?_ rfl rfl (by kernel_rfl) (by kernel_rfl) (by kernel_rfl) (fun _ _ _ h => h) (by rfl) (by assumption) ?_ ?_
        rotate_left 2
        · intro wx hSx
          (try dsimp only at hSx)
          (try obtain ⟨_, _, _, _, _, _⟩ := hSx)
          go_simp
          try with_reducible rfl
        rotate_left
        simp only [Act.put, List.setIfInBounds_toArray, List.set_cons_zero, List.set_cons_succ]
        refine take_on (i := 15) (some 103) ?_ rfl rfl (by kernel_rfl) (by kernel_rfl) (by kernel_rfl) (fun _ _ _ h => h) (by rfl) (by assumption) ?_ ?_
        rotate_left 2
        · intro wx hSx
          (try dsimp only at hSx)
          (try obtain ⟨_, _, _, _, _, _⟩ := hSx)
          go_simp
          try with_reducible rfl
        rotate_left
        simp only [Act.put, List.setIfInBounds_toArray, List.set_cons_zero, List.set_cons_succ]
        refine take_on (i := 16) (some 104) ?_ rfl rfl (by kernel_rfl) (by kernel_rfl) (by kernel_rfl) (fun _ _ _ h => h) (by rfl) (by assumption) ?_ ?_
        rotate_left 2
        · intro wx hSx
          (try dsimp only at hSx)
          (try obtain ⟨_, _, _, _, _, _⟩ := hSx)
          go_simp
          try with_reducible rfl
        rotate_left
        simp only [Act.put, List.setIfInBounds_toArray, List.set_cons_zero, List.set_cons_succ]
        refine take_on (i := 17) (some 105) ?_ rfl rfl (by kernel_rfl) (by kernel_rfl) (by kernel_rfl) (fun _ _ _ h => h) (by rfl) (by assumption) ?_ ?_
        rotate_left 2
        · intro wx hSx
          (try dsimp only at hSx)
          (try obtain ⟨_, _, _, _, _, _⟩ := hSx)
          go_simp
          try with_reducible rfl
        rotate_left
        simp only [Act.put, List.setIfInBounds_toArray, List.set_cons_zero, List.set_cons_succ]
        refine take_on (i := 18) (some 106) ?_ rfl rfl (by kernel_rfl) (by kernel_rfl) (by kernel_rfl) (fun _ _ _ h => h) (by rfl) (by assumption) ?_ ?_
        rotate_left 2
        · intro wx hSx
          (try dsimp only at hSx)
          (try obtain ⟨_, _, _, _, _, _⟩ := hSx)
          go_simp
          try with_reducible rfl
        rotate_left
        simp only [Act.put, List.setIfInBounds_toArray, List.set_cons_zero, List.set_cons_succ]
        refine take_on (i := 19) (some 107) ?_ rfl rfl (by kernel_rfl) (by kernel_rfl) (by kernel_rfl) (fun _ _ _ h => h) (by rfl) (by assumption) ?_ ?_
        rotate_left 2
        · intro wx hSx
          (try dsimp only at hSx)
          (try obtain ⟨_, _, _, _, _, _⟩ := hSx)
          go_simp
          try with_reducible rfl
        rotate_left
        simp only [Act.put, List.setIfInBounds_toArray, List.set_cons_zero, List.set_cons_succ]
        refine take_on (i := 20) (some 108) ?_ rfl rfl (by kernel_rfl) (by kernel_rfl) (by kernel_rfl) (fun _ _ _ h => h) (by rfl) (by assumption) ?_ ?_
        rotate_left 2
        · intro wx hSx
          (try dsimp only at hSx)
          (try obtain ⟨_, _, _, _, _, _⟩ := hSx)
          go_simp
          try with_reducible rfl
        rotate_left
        simp only [Act.put, List.setIfInBounds_toArray, List.set_cons_zero, List.set_cons_succ]
        refine take_on (i := 21) (some 109) ?_ rfl rfl (by kernel_rfl) (by kernel_rfl) (by kernel_rfl) (fun _ _ _ h => h) (by rfl) (by assumption) ?_ ?_
        rotate_left 2
        · intro wx hSx
          (try dsimp only at hSx)
          (try obtain ⟨_, _, _, _, _, _⟩ := hSx)
          go_simp
          try with_reducible rfl
        rotate_left
        simp only [Act.put, List.setIfInBounds_toArray, List.set_cons_zero, List.set_cons_succ]
        refine take_on (i := 22) (some 110) ?_ rfl rfl (by kernel_rfl) (by kernel_rfl) (by kernel_rfl) (fun _ _ _ h => h) (by rfl) (by assumption) ?_ ?_
        rotate_left 2
        · intro wx hSx
          (try dsimp only at hSx)
          (try obtain ⟨_, _, _, _, _, _⟩ := hSx)
          go_simp
          try with_reducible rfl
        rotate_left
        simp only [Act.put, List.setIfInBounds_toArray, List.set_cons_zero, List.set_cons_succ]
        refine take_on (i := 23) (some 111) ?_ rfl rfl (by kernel_rfl) (by kernel_rfl) (by kernel_rfl) (fun _ _ _ h => h) (by rfl) (by assumption) ?_ ?_
        rotate_left 2
        · intro wx hSx
          (try dsimp only at hSx)
          (try obtain ⟨_, _, _, _, _, _⟩ := hSx)
          go_simp
          try with_reducible rfl
        rotate_left
        simp only [Act.put, List.setIfInBounds_toArray, List.set_cons_zero, List.set_cons_succ]
        refine take_on (i := 24) (some 112) ?_ rfl rfl (by kernel_rfl) (by kernel_rfl) (by kernel_rfl) (fun _ _ _ h => h) (by rfl) (by assumption) ?_ ?_
        rotate_left 2
        · intro wx hSx
          (try dsimp only at hSx)
          (try obtain ⟨_, _, _, _, _, _⟩ := hSx)
          go_simp
          try with_reducible rfl
        rotate_left
        simp only [Act.put, List.setIfInBounds_toArray, List.set_cons_zero, List.set_cons_succ]
        refine take_on (i := 25) (some 113) ?_ rfl rfl (by kernel_rfl) (by kernel_rfl) (by kernel_rfl) (fun _ _ _ h => h) (by rfl) (by assumption) ?_ ?_
        rotate_left 2
        · intro wx hSx
          (try dsimp only at hSx)
          (try obtain ⟨_, _, _, _, _, _⟩ := hSx)
          go_simp
          try with_reducible rfl
        rotate_left
        simp only [Act.put, List.setIfInBounds_toArray, List.set_cons_zero, List.set_cons_succ]
        refine take_on (i := 26) (some 114) ?_ rfl rfl (by kernel_rfl) (by kernel_rfl) (by kernel_rfl) (fun _ _ _ h => h) (by rfl) (by assumption) ?_ ?_
        rotate_left 2
        · intro wx hSx
          (try dsimp only at hSx)
          (try obtain ⟨_, _, _, _, _, _⟩ := hSx)
          go_simp
          try with_reducible rfl
        rotate_left
        simp only [Act.put, List.setIfInBounds_toArray, List.set_cons_zero, List.set_cons_succ]
        refine take_on (i := 27) (some 115) ?_ rfl rfl (by kernel_rfl) (by kernel_rfl) (by kernel_rfl) (fun _ _ _ h => h) (by rfl) (by assumption) ?_ ?_
        rotate_left 2
        · intro wx hSx
          (try dsimp only at hSx)
          (try obtain ⟨_, _, _, _, _, _⟩ := hSx)
          go_simp
          try with_reducible rfl
        rotate_left
        simp only [Act.put, List.setIfInBounds_toArray, List.set_cons_zero, List.set_cons_succ]
        refine take_on (i := 28) (some 116) ?_ rfl rfl (by kernel_rfl) (by kernel_rfl) (by kernel_rfl) (fun _ _ _ h => h) (by rfl) (by assumption) ?_ ?_
        rotate_left 2
        · intro wx hSx
          (try dsimp only at hSx)
          (try obtain ⟨_, _, _, _, _, _⟩ := hSx)
          go_simp
          try with_reducible rfl
        rotate_left
        simp only [Act.put, List.setIfInBounds_toArray, List.set_cons_zero, List.set_cons_succ]
        refine take_on (i := 29) (some 117) ?_ rfl rfl (by kernel_rfl) (by kernel_rfl) (by kernel_rfl) (fun _ _ _ h => h) (by rfl) (by assumption) ?_ ?_
        rotate_left 2
        · intro wx hSx
          (try dsimp only at hSx)
          (try obtain ⟨_, _, _, _, _, _⟩ := hSx)
          go_simp
          try with_reducible rfl
        rotate_left
        simp only [Act.put, List.setIfInBounds_toArray, List.set_cons_zero, List.set_cons_succ]
        refine take_on (i := 30) (some 118) ?_ rfl rfl (by kernel_rfl) (by kernel_rfl) (by kernel_rfl) (fun _ _ _ h => h) (by rfl) (by assumption) ?_ ?_
        rotate_left 2
        · intro wx hSx
          (try dsimp only at hSx)
          (try obtain ⟨_, _, _, _, _, _⟩ := hSx)
          go_simp
          try with_reducible rfl
        rotate_left
        simp only [Act.put, List.setIfInBounds_toArray, List.set_cons_zero, List.set_cons_succ]
        refine take_on (i := 31) (some 119) ?_ rfl rfl (by kernel_rfl) (by kernel_rfl) (by kernel_rfl) (fun _ _ _ h => h) (by rfl) (by assumption) ?_ ?_
        rotate_left 2
        · intro wx hSx
          (try dsimp only at hSx)
          (try obtain ⟨_, _, _, _, _, _⟩ := hSx)
          go_simp
          try with_reducible rfl
        rotate_left
        simp only [Act.put, List.setIfInBounds_toArray, List.set_cons_zero, List.set_cons_succ]
        refine take_on (i := 32) (some 120) ?_ rfl rfl (by kernel_rfl) (by kernel_rfl) (by kernel_rfl) (fun _ _ _ h => h) (by rfl) (by assumption) ?_ ?_
        rotate_left 2
        · intro wx hSx
          (try dsimp only at hSx)
          (try obtain ⟨_, _, _, _, _, _⟩ := hSx)
          go_simp
          try with_reducible rfl
        rotate_left
        simp only [Act.put, List.setIfInBounds_toArray, List.set_cons_zero, List.set_cons_succ]
        refine take_on (i := 33) (some 121) ?_ rfl rfl (by kernel_rfl) (by kernel_rfl) (by kernel_rfl) (fun _ _ _ h => h) (by rfl) (by assumption) ?_ ?_
        rotate_left 2
        · intro wx hSx
          (try dsimp only at hSx)
          (try obtain ⟨_, _, _, _, _, _⟩ := hSx)
          go_simp
          try with_reducible rfl
        rotate_left
        simp only [Act.put, List.setIfInBounds_toArray, List.set_cons_zero, List.set_cons_succ]
        refine take_off (i := 34) (some 122) rfl rfl (by kernel_rfl) (by kernel_rfl) (by kernel_rfl) (fun _ _ _ h => h) (by rfl) (by assumption) ?_
        simp only [Act.put, List.setIfInBounds_toArray, List.set_cons_zero, List.set_cons_succ]
        refine take_off (i := 35) (some 123) rfl rfl (by kernel_rfl) (by kernel_rfl) (by kernel_rfl) (fun _ _ _ h => h) (by rfl) (by assumption) ?_
        simp only [Act.put, List.setIfInBounds_toArray, List.set_cons_zero, List.set_cons_succ]
        refine take_off (i := 36) (some 124) rfl rfl (by kernel_rfl) (by kernel_rfl) (by kernel_rfl) (fun _ _ _ h => h) (by rfl) (by assumption) ?_
        simp only [Act.put, List.setIfInBounds_toArray, List.set_cons_zero, List.set_cons_succ]
        refine take_off (i := 37) (some 125) rfl rfl (by kernel_rfl) (by kernel_rfl) (by kernel_rfl) (fun _ _ _ h => h) (by rfl) (by assumption) ?_
        simp only [Act.put, List.setIfInBounds_toArray, List.set_cons_zero, List.set_cons_succ]
        refine take_on (i := 38) (some 126) ?_ rfl rfl (by kernel_rfl) (by kernel_rfl) (by kernel_rfl) (fun _ _ _ h => h) (by rfl) (by assumption) ?_ ?_
        rotate_left 2
        · intro wx hSx
          (try dsimp only at hSx)
          (try obtain ⟨_, _, _, _, _, _⟩ := hSx)
          go_simp
          try with_reducible rfl
        rotate_left
        simp only [Act.put, List.setIfInBounds_toArray, List.set_cons_zero, List.set_cons_succ]
        refine take_on (i := 39) (some 127) ?_ rfl rfl (by kernel_rfl) (by kernel_rfl) (by kernel_rfl) (fun _ _ _ h => h) (by rfl) (by assumption) ?_ ?_
        rotate_left 2
        · intro wx hSx
          (try dsimp only at hSx)
          (try obtain ⟨_, _, _, _, _, _⟩ := hSx)
          go_simp
          try with_reducible rfl
        rotate_left
        simp only [Act.put, List.setIfInBounds_toArray, List.set_cons_zero, List.set_cons_succ]
        refine take_on (i := 40) (some 2) ?_ rfl rfl (by kernel_rfl) (by kernel_rfl) (by kernel_rfl) (fun _ _ _ h => h) (by rfl) (by assumption) ?_ ?_
        rotate_left 2
        · intro wx hSx
          (try dsimp only at hSx)
          (try obtain ⟨_, _, _, _, _, _⟩ := hSx)
          go_simp
          try with_reducible rfl
        rotate_left
        simp only [Act.put, List.setIfInBounds_toArray, List.set_cons_zero, List.set_cons_succ]
        refine wpAnyH_done (by kernel_rfl) ?_ _
        refine NoPanic.normal ?_
        go_wp2_with fail
        go_ret
        exact ⟨rfl, B10.out.trans (Ewb.out.mono B10.out.size)⟩
      · have gz : ((mkB zv).toList == [113, 32, 114]) = false := by rw [Lib.toList_data, mkB_list, beq_eq_false_iff_ne]; exact hzq
        have hl9 : 1 ≤ l.length := by
          cases l with
          | nil => exact absurd (hz2 rfl) hzq
          | cons a r => simp
        have gl : decide ((1 : Int) < (l9.length : Int)) = true := by have := HL9.out; simp; omega
        generalize mkB zv = zz at *
        clear hzq hz1 hz2
        go_wp2_with fail
        obtain ⟨_, _, _, _, _, _⟩ := SH.out _ (Below.refl _ _)
        refine wp_region_noPanic (wp_region_held_drew (S := fun w' => w'.cell? ⟨K4, 0, none⟩ = some (.string T) ∧ w'.cell? ⟨K4, 1, none⟩ = some (.string U) ∧ w'.cell? ⟨K4, 2, none⟩ = some (.slice pb l.length cb) ∧ w'.cell? ⟨K9, 0, none⟩ = some (.string T) ∧ w'.cell? ⟨K9, 1, none⟩ = some (.string U) ∧ w'.cell? ⟨K9, 2, none⟩ = some (.slice p9 l9.length c9)) (by kernel_rfl) (SH.out _ E10) (fun hHeld => ?_))
        refine take_on (i := 0) (some 88) ?_ rfl rfl (by kernel_rfl) (by kernel_rfl) (by kernel_rfl) (fun _ _ _ h => h) (by rfl) (by assumption) ?_ ?_
        rotate_left 2
        · intro wx hSx
          (try dsimp only at hSx)
          (try obtain ⟨_, _, _, _, _, _⟩ := hSx)
          go_simp
          try with_reducible rfl
        rotate_left
        simp only [Act.put, List.setIfInBounds_toArray, List.set_cons_zero, List.set_cons_succ]
        refine take_on (i := 1) (some 89) ?_ rfl rfl (by kernel_rfl) (by kernel_rfl) (by kernel_rfl) (fun _ _ _ h => h) (by rfl) (by assumption) ?_ ?_
        rotate_left 2
        · intro wx hSx
          (try dsimp only at hSx)
          (try obtain ⟨_, _, _, _, _, _⟩ := hSx)
          go_simp
          try with_reducible rfl
        rotate_left
        simp only [Act.put, List.setIfInBounds_toArray, List.set_cons_zero, List.set_cons_succ]
        refine take_on (i := 3) (some 91) ?_ rfl rfl (by kernel_rfl) (by kernel_rfl) (by kernel_rfl) (fun _ _ _ h => h) (by rfl) (by assumption) ?_ ?_
        rotate_left 2
        · intro wx hSx
          (try dsimp only at hSx)
          (try obtain ⟨_, _, _, _, _, _⟩ := hSx)
          go_simp
          try with_reducible rfl
        rotate_left
        simp only [Act.put, List.setIfInBounds_toArray, List.set_cons_zero, List.set_cons_succ]
        refine take_on (i := 4) (some 92) ?_ rfl rfl (by kernel_rfl) (by kernel_rfl) (by kernel_rfl) (fun _ _ _ h => h) (by rfl) (by assumption) ?_ ?_
        rotate_left 2
        · intro wx hSx
          (try dsimp only at hSx)
          (try obtain ⟨_, _, _, _, _, _⟩ := hSx)
          go_simp
          try with_reducible rfl
        rotate_left
        simp only [Act.put, List.setIfInBounds_toArray, List.set_cons_zero, List.set_cons_succ]
        refine wpAnyH_ready (rs := [2]) (by kernel_rfl) (by simp) (AllReadyH.cons rfl (fun K hK => ?_) AllReadyH.nil)
        rw [if_pos (by rfl)]
        go_simp
        refine (UP1.out _).mono ?_
        rintro e wa ⟨rfl, hBu⟩
        have Ewa := Lib.hid ((E10).trans (hBu.mono (E10).size))
        clear hBu
        refine hK.out _ _ (SH.out _ Ewa.out) (fun hHeld => ?_)
        clear hK
        refine take_on (i := 5) (some 93) ?_ rfl rfl (by kernel_rfl) (by kernel_rfl) (by kernel_rfl) (fun _ _ _ h => h) (by rfl) (by assumption) ?_ ?_
        rotate_left 2
        · intro wx hSx
          (try dsimp only at hSx)
          (try obtain ⟨_, _, _, _, _, _⟩ := hSx)
          go_simp
          try with_reducible rfl
        rotate_left
        simp only [Act.put, List.setIfInBounds_toArray, List.set_cons_zero, List.set_cons_succ]
        refine take_on (i := 6) (some 94) ?_ rfl rfl (by kernel_rfl) (by kernel_rfl) (by kernel_rfl) (fun _ _ _ h => h) (by rfl) (by assumption) ?_ ?_
        rotate_left 2
        · intro wx hSx
          (try dsimp only at hSx)
          (try obtain ⟨_, _, _, _, _, _⟩ := hSx)
          go_simp
          try with_reducible rfl
        rotate_left
        simp only [Act.put, List.setIfInBounds_toArray, List.set_cons_zero, List.set_cons_succ]
        refine take_on (i := 7) (some 95) ?_ rfl rfl (by kernel_rfl) (by kernel_rfl) (by kernel_rfl) (fun _ _ _ h => h) (by rfl) (by assumption) ?_ ?_
        rotate_left 2
        · intro wx hSx
          (try dsimp only at hSx)
          (try obtain ⟨_, _, _, _, _, _⟩ := hSx)
          go_simp
          try with_reducible rfl
        rotate_left
        simp only [Act.put, List.setIfInBounds_toArray, List.set_cons_zero, List.set_cons_succ]
        refine take_on (i := 8) (some 96) ?_ rfl rfl (by kernel_rfl) (by kernel_rfl) (by kernel_rfl) (fun _ _ _ h => h) (by rfl) (by assumption) ?_ ?_
        rotate_left 2
        · intro wx hSx
          (try dsimp only at hSx)
          (try obtain ⟨_, _, _, _, _, _⟩ := hSx)
          go_simp
          try with_reducible rfl
        rotate_left
        simp only [Act.put, List.setIfInBounds_toArray, List.set_cons_zero, List.set_cons_succ]
        refine take_on (i := 10) (some 98) ?_ rfl rfl (by kernel_rfl) (by kernel_rfl) (by kernel_rfl) (fun _ _ _ h => h) (by rfl) (by assumption) ?_ ?_
        rotate_left 2
        · intro wx hSx
          (try dsimp only at hSx)
          (try obtain ⟨_, _, _, _, _, _⟩ := hSx)
          go_simp
          try with_reducible rfl
        rotate_left
        simp only [Act.put, List.setIfInBounds_toArray, List.set_cons_zero, List.set_cons_succ]
        refine take_on (i := 11) (some 99) ?_ rfl rfl (by kernel_rfl) (by kernel_rfl) (by kernel_rfl) (fun _ _ _ h => h) (by rfl) (by assumption) ?_ ?_
        rotate_left 2
        · intro wx hSx
          (try dsimp only at hSx)
          (try obtain ⟨_, _, _, _, _, _⟩ := hSx)
          go_simp
          try with_reducible rfl
        rotate_left
        simp only [Act.put, List.setIfInBounds_toArray, List.set_cons_zero, List.set_cons_succ]
        refine wpAnyH_ready (rs := [9]) (by kernel_rfl) (by simp) (AllReadyH.cons rfl (fun K hK => ?_) AllReadyH.nil)
        rw [if_pos (by rfl)]
        go_simp
        refine (UP2.out _).mono ?_
        rintro e wb ⟨rfl, hBu⟩
        have Ewb := Lib.hid ((Ewa.out).trans (hBu.mono (Ewa.out).size))
        clear hBu
        refine hK.out _ _ (SH.out _ Ewb.out) (fun hHeld => ?_)
        clear hK
        refine take_on (i := 12) (some 100) ?_ rfl rfl (by kernel_rfl) (by kernel_rfl) (by kernel_rfl) (fun _ _ _ h => h) (by rfl) (by assumption) ?_ ?_
        rotate_left 2
        · intro wx hSx
          (try dsimp only at hSx)
          (try obtain ⟨_, _, _, _, _, _⟩ := hSx)
          go_simp
          try with_reducible rfl
        rotate_left
        simp only [Act.put, List.setIfInBounds_toArray, List.set_cons_zero, List.set_cons_succ]
        refine take_on (i := 13) (some 101) ?_ rfl rfl (by kernel_rfl) (by kernel_rfl) (by kernel_rfl) (fun _ _ _ h => h) (by rfl) (by assumption) ?_ ?_
        rotate_left 2
        · intro wx hSx
          (try dsimp only at hSx)
          (try obtain ⟨_, _, _, _, _, _⟩ := hSx)
          go_simp
          try with_reducible rfl
        rotate_left
        simp only [Act.put, List.setIfInBounds_toArray, List.set_cons_zero, List.set_cons_succ]
        refine take_on (i := 14) (some 102) ?_ rfl rfl (by kernel_rfl) (by kernel_rfl) (by kernel_rfl) (fun _ _ _ h => h) (by rfl) (by assumption) ?_ ?_
        rotate_left 2
        · intro wx hSx
          (try dsimp only at hSx)
          (try obtain ⟨_, _, _, _, _, _⟩ := hSx)
          go_simp
          try with_reducible rfl
        rotate_left
        simp only [Act.put, List.setIfInBounds_toArray, List.set_cons_zero, List.set_cons_succ]
        refine take_on (i := 15) (some 103) ?_ rfl rfl (by kernel_rfl) (by kernel_rfl) (by kernel_rfl) (fun _ _ _ h => h) (by rfl) (by assumption) ?_ ?_
        rotate_left 2
        · intro wx hSx
          (try dsimp only at hSx)
          (try obtain ⟨_, _, _, _, _, _⟩ := hSx)
          go_simp
          try with_reducible rfl
        rotate_left
        simp only [Act.put, List.setIfInBounds_toArray, List.set_cons_zero, List.set_cons_succ]
        refine take_on (i := 16) (some 104) ?_ rfl rfl (by kernel_rfl) (by kernel_rfl) (by kernel_rfl) (fun _ _ _ h => h) (by rfl) (by assumption) ?_ ?_
        rotate_left 2
        · intro wx hSx
          (try dsimp only at hSx)
          (try obtain ⟨_, _, _, _, _, _⟩ := hSx)
          go_simp
          try with_reducible rfl
        rotate_left
        simp only [Act.put, List.setIfInBounds_toArray, List.set_cons_zero, List.set_cons_succ]
        refine take_on (i := 17) (some 105) ?_ rfl rfl (by kernel_rfl) (by kernel_rfl) (by kernel_rfl) (fun _ _ _ h => h) (by rfl) (by assumption) ?_ ?_
        rotate_left 2
        · intro wx hSx
          (try dsimp only at hSx)
          (try obtain ⟨_, _, _, _, _, _⟩ := hSx)
          go_simp
          try with_reducible rfl
        rotate_left
        simp only [Act.put, List.setIfInBounds_toArray, List.set_cons_zero, List.set_cons_succ]
        refine take_on (i := 18) (some 106) ?_ rfl rfl (by kernel_rfl) (by kernel_rfl) (by kernel_rfl) (fun _ _ _ h => h) (by rfl) (by assumption) ?_ ?_
        rotate_left 2
        · intro wx hSx
          (try dsimp only at hSx)
          (try obtain ⟨_, _, _, _, _, _⟩ := hSx)
          go_simp
          try with_reducible rfl
        rotate_left
        simp only [Act.put, List.setIfInBounds_toArray, List.set_cons_zero, List.set_cons_succ]
        refine take_on (i := 19) (some 107) ?_ rfl rfl (by kernel_rfl) (by kernel_rfl) (by kernel_rfl) (fun _ _ _ h => h) (by rfl) (by assumption) ?_ ?_
        rotate_left 2
        · intro wx hSx
          (try dsimp only at hSx)
          (try obtain ⟨_, _, _, _, _, _⟩ := hSx)
          go_simp
          try with_reducible rfl
        rotate_left
        simp only [Act.put, List.setIfInBounds_toArray, List.set_cons_zero, List.set_cons_succ]
        refine take_on (i := 20) (some 108) ?_ rfl rfl (by kernel_rfl) (by kernel_rfl) (by kernel_rfl) (fun _ _ _ h => h) (by rfl) (by assumption) ?_ ?_
        rotate_left 2
        · intro wx hSx
          (try dsimp only at hSx)
          (try obtain ⟨_, _, _, _, _, _⟩ := hSx)
          go_simp
          try with_reducible rfl
        rotate_left
        simp only [Act.put, List.setIfInBounds_toArray, List.set_cons_zero, List.set_cons_succ]
        refine take_on (i := 21) (some 109) ?_ rfl rfl (by kernel_rfl) (by kernel_rfl) (by kernel_rfl) (fun _ _ _ h => h) (by rfl) (by assumption) ?_ ?_
        rotate_left 2
        · intro wx hSx
          (try dsimp only at hSx)
          (try obtain ⟨_, _, _, _, _, _⟩ := hSx)
          go_simp
          try with_reducible rfl
        rotate_left
        simp only [Act.put, List.setIfInBounds_toArray, List.set_cons_zero, List.set_cons_succ]
        refine take_on (i := 22) (some 110) ?_ rfl rfl (by kernel_rfl) (by kernel_rfl) (by kernel_rfl) (fun _ _ _ h => h) (by rfl) (by assumption) ?_ ?_
        rotate_left 2
        · intro wx hSx
          (try dsimp only at hSx)
          (try obtain ⟨_, _, _, _, _, _⟩ := hSx)
          go_simp
          try with_reducible rfl
        rotate_left
        simp only [Act.put, List.setIfInBounds_toArray, List.set_cons_zero, List.set_cons_succ]
        refine take_on (i := 23) (some 111) ?_ rfl rfl (by kernel_rfl) (by kernel_rfl) (by kernel_rfl) (fun _ _ _ h => h) (by rfl) (by assumption) ?_ ?_
        rotate_left 2
        · intro wx hSx
          (try dsimp only at hSx)
          (try obtain ⟨_, _, _, _, _, _⟩ := hSx)
          go_simp
          try with_reducible rfl
        rotate_left
        simp only [Act.put, List.setIfInBounds_toArray, List.set_cons_zero, List.set_cons_succ]
        refine take_on (i := 24) (some 112) ?_ rfl rfl (by kernel_rfl) (by kernel_rfl) (by kernel_rfl) (fun _ _ _ h => h) (by rfl) (by assumption) ?_ ?_
        rotate_left 2
        · intro wx hSx
          (try dsimp only at hSx)
          (try obtain ⟨_, _, _, _, _, _⟩ := hSx)
          go_simp
          try with_reducible rfl
        rotate_left
        simp only [Act.put, List.setIfInBounds_toArray, List.set_cons_zero, List.set_cons_succ]
        refine take_on (i := 25) (some 113) ?_ rfl rfl (by kernel_rfl) (by kernel_rfl) (by kernel_rfl) (fun _ _ _ h => h) (by rfl) (by assumption) ?_ ?_
        rotate_left 2
        · intro wx hSx
          (try dsimp only at hSx)
          (try obtain ⟨_, _, _, _, _, _⟩ := hSx)
          go_simp
          try with_reducible rfl
        rotate_left
        simp only [Act.put, List.setIfInBounds_toArray, List.set_cons_zero, List.set_cons_succ]
        refine take_on (i := 26) (some 114) ?_ rfl rfl (by kernel_rfl) (by kernel_rfl) (by kernel_rfl) (fun _ _ _ h => h) (by rfl) (by assumption) ?_ ?_
        rotate_left 2
        · intro wx hSx
          (try dsimp only at hSx)
          (try obtain ⟨_, _, _, _, _, _⟩ := hSx)
          go_simp
          try with_reducible rfl
        rotate_left
        simp only [Act.put, List.setIfInBounds_toArray, List.set_cons_zero, List.set_cons_succ]
        refine take_on (i := 27) (some 115) ?_ rfl rfl (by kernel_rfl) (by kernel_rfl) (by kernel_rfl) (fun _ _ _ h => h) (by rfl) (by assumption) ?_ ?_
        rotate_left 2
        · intro wx hSx
          (try dsimp only at hSx)
          (try obtain ⟨_, _, _, _, _, _⟩ := hSx)
          go_simp
          try with_reducible rfl
        rotate_left
        simp only [Act.put, List.setIfInBounds_toArray, List.set_cons_zero, List.set_cons_succ]
        refine take_on (i := 28) (some 116) ?_ rfl rfl (by kernel_rfl) (by kernel_rfl) (by kernel_rfl) (fun _ _ _ h => h) (by rfl) (by assumption) ?_ ?_
        rotate_left 2
        · intro wx hSx
          (try dsimp only at hSx)
          (try obtain ⟨_, _, _, _, _, _⟩ := hSx)
          go_simp
          try with_reducible rfl
        rotate_left
        simp only [Act.put, List.setIfInBounds_toArray, List.set_cons_zero, List.set_cons_succ]
        refine take_on (i := 29) (some 117) ?_ rfl rfl (by kernel_rfl) (by kernel_rfl) (by kernel_rfl) (fun _ _ _ h => h) (by rfl) (by assumption) ?_ ?_
        rotate_left 2
        · intro wx hSx
          (try dsimp only at hSx)
          (try obtain ⟨_, _, _, _, _, _⟩ := hSx)
          go_simp
          try with_reducible rfl
        rotate_left
        simp only [Act.put, List.setIfInBounds_toArray, List.set_cons_zero, List.set_cons_succ]
        refine take_on (i := 30) (some 118) ?_ rfl rfl (by kernel_rfl) (by kernel_rfl) (by kernel_rfl) (fun _ _ _ h => h) (by rfl) (by assumption) ?_ ?_
        rotate_left 2
        · intro wx hSx
          (try dsimp only at hSx)
          (try obtain ⟨_, _, _, _, _, _⟩ := hSx)
          go_simp
          try with_reducible rfl
        rotate_left
        simp only [Act.put, List.setIfInBounds_toArray, List.set_cons_zero, List.set_cons_succ]
        refine take_on (i := 31) (some 119) ?_ rfl rfl (by kernel_rfl) (by kernel_rfl) (by kernel_rfl) (fun _ _ _ h => h) (by rfl) (by assumption) ?_ ?_
        rotate_left 2
        · intro wx hSx
          (try dsimp only at hSx)
          (try obtain ⟨_, _, _, _, _, _⟩ := hSx)
          go_simp
          try with_reducible rfl
        rotate_left
        simp only [Act.put, List.setIfInBounds_toArray, List.set_cons_zero, List.set_cons_succ]
        refine take_on (i := 32) (some 120) ?_ rfl rfl (by kernel_rfl) (by kernel_rfl) (by kernel_rfl) (fun _ _ _ h => h) (by rfl) (by assumption) ?_ ?_
        rotate_left 2
        · intro wx hSx
          (try dsimp only at hSx)
          (try obtain ⟨_, _, _, _, _, _⟩ := hSx)
          go_simp
          try with_reducible rfl
        rotate_left
        simp only [Act.put, List.setIfInBounds_toArray, List.set_cons_zero, List.set_cons_succ]
        refine take_on (i := 33) (some 121) ?_ rfl rfl (by kernel_rfl) (by kernel_rfl) (by kernel_rfl) (fun _ _ _ h => h) (by rfl) (by assumption) ?_ ?_
        rotate_left 2
        · intro wx hSx
          (try dsimp only at hSx)
          (try obtain ⟨_, _, _, _, _, _⟩ := hSx)
          go_simp
          try with_reducible rfl
        rotate_left
        simp only [Act.put, List.setIfInBounds_toArray, List.set_cons_zero, List.set_cons_succ]
        refine take_on (i := 34) (some 122) ?_ rfl rfl (by kernel_rfl) (by kernel_rfl) (by kernel_rfl) (fun _ _ _ h => h) (by rfl) (by assumption) ?_ ?_
        rotate_left 2
        · intro wx hSx
          (try dsimp only at hSx)
          (try obtain ⟨_, _, _, _, _, _⟩ := hSx)
          go_simp
          try with_reducible rfl
        rotate_left
        simp only [Act.put, List.setIfInBounds_toArray, List.set_cons_zero, List.set_cons_succ]
        refine take_on (i := 35) (some 123) ?_ rfl rfl (by kernel_rfl) (by kernel_rfl) (by kernel_rfl) (fun _ _ _ h => h) (by rfl) (by assumption) ?_ ?_
        rotate_left 2
        · intro wx hSx
          (try dsimp only at hSx)
          (try obtain ⟨_, _, _, _, _, _⟩ := hSx)
          go_simp
          try with_reducible rfl
        rotate_left
        simp only [Act.put, List.setIfInBounds_toArray, List.set_cons_zero, List.set_cons_succ]
        refine take_on (i := 36) (some 124) ?_ rfl rfl (by kernel_rfl) (by kernel_rfl) (by kernel_rfl) (fun _ _ _ h => h) (by rfl) (by assumption) ?_ ?_
        rotate_left 2
        · intro wx hSx
          (try dsimp only at hSx)
          (try obtain ⟨_, _, _, _, _, _⟩ := hSx)
          go_simp
          try with_reducible rfl
        rotate_left
        simp only [Act.put, List.setIfInBounds_toArray, List.set_cons_zero, List.set_cons_succ]
        refine take_on (i := 37) (some 125) ?_ rfl rfl (by kernel_rfl) (by kernel_rfl) (by kernel_rfl) (fun _ _ _ h => h) (by rfl) (by assumption) ?_ ?_
        rotate_left 2
        · intro wx hSx
          (try dsimp only at hSx)
          (try obtain ⟨_, _, _, _, _, _⟩ := hSx)
          go_simp
          try with_reducible rfl
        rotate_left
        simp only [Act.put, List.setIfInBounds_toArray, List.set_cons_zero, List.set_cons_succ]
        refine take_on (i := 38) (some 126) ?_ rfl rfl (by kernel_rfl) (by kernel_rfl) (by kernel_rfl) (fun _ _ _ h => h) (by rfl) (by assumption) ?_ ?_
        rotate_left 2
        · intro wx hSx
          (try dsimp only at hSx)
          (try obtain ⟨_, _, _, _, _, _⟩ := hSx)
          go_simp
          try with_reducible rfl
        rotate_left
        simp only [Act.put, List.setIfInBounds_toArray, List.set_cons_zero, List.set_cons_succ]
        refine take_on (i := 39) (some 127) ?_ rfl rfl (by kernel_rfl) (by kernel_rfl) (by kernel_rfl) (fun _ _ _ h => h) (by rfl) (by assumption) ?_ ?_
        rotate_left 2
        · intro wx hSx
          (try dsimp only at hSx)
          (try obtain ⟨_, _, _, _, _, _⟩ := hSx)
          go_simp
          try with_reducible rfl
        rotate_left
        simp only [Act.put, List.setIfInBounds_toArray, List.set_cons_zero, List.set_cons_succ]
        refine take_on (i := 40) (some 2) ?_ rfl rfl (by kernel_rfl) (by kernel_rfl) (by kernel_rfl) (fun _ _ _ h => h) (by rfl) (by assumption) ?_ ?_
        rotate_left 2
        · intro wx hSx
          (try dsimp only at hSx)
          (try obtain ⟨_, _, _, _, _, _⟩ := hSx)
          go_simp
          try with_reducible rfl
        rotate_left
        simp only [Act.put, List.setIfInBounds_toArray, List.set_cons_zero, List.set_cons_succ]
        refine wpAnyH_done (by kernel_rfl) ?_ _
        refine NoPanic.normal ?_
        go_wp2_with fail
        go_ret
        exact ⟨rfl, B10.out.trans (Ewb.out.mono B10.out.size)⟩
  · go_enter Tryd.func3, Tryd.ntmps3
    go_wp2_with fail
    refine (big_yes _ _ _ _ (by omega)).mono ?_
    rintro e w1 ⟨rfl, rfl⟩
    go_wp2_with fail
    go_ret
    exact ⟨rfl, Below.refl _ _⟩
end Go.Proofs.YtjleadlecdcdeaaDoor
