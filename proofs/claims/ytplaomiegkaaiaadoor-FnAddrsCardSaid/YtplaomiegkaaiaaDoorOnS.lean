/-
  Addresses: the walk of spec's l06One.
-/
import Derived.Test.YtplaomiegkaaiaaDoorLaS
import Derived.Test.YtplaomiegkaaiaaDoorUqS
import Derived.Test.YtplaomiegkaaiaaDoorAppB
import Derived.Test.YtplaomiegkaaiaaDoorThree
namespace Go.Proofs.YtplaomiegkaaiaaDoor
set_option linter.unusedVariables false
open Go.RowKit

/-- What l06One hands back. -/
def boxV (nm m : List UInt8) : Value := match boxOf nm m with
  | some a => .tuple #[.agg #[.string (mkB a.name), .string (mkB a.box), .string (mkB a.host)], .bool true]
  | none => .tuple #[.agg #[.string (mkB nm), .string ⟨#[]⟩, .string ⟨#[]⟩], .bool false]
def oneV (p : List UInt8) : Value := boxV (twoOf p).1 (twoOf p).2
def noV (n : ByteArray) : Value := .tuple #[.agg #[.string n, .string ⟨#[]⟩, .string ⟨#[]⟩], .bool false]
theorem boxV_no {nm m : List UInt8} (h : ¬ (m.all specB = true ∧ 0 < lastI 64 m ∧ lastI 64 m < (m.length : Int) - 1)) : boxV nm m = noV (mkB nm) := by
  unfold boxV boxOf
  rw [if_neg h]
  rfl
theorem boxV_yes {nm : List UInt8} {m : ByteArray} {k : Nat} (h : m.data.toList.all specB = true) (hk : lastI 64 m.data.toList = (k : Int)) (h1 : 0 < k) (h2 : (k : Int) < (m.size : Int) - 1) :
    boxV nm m.data.toList = .tuple #[.agg #[.string (mkB nm), .string (m.extract 0 k), .string (m.extract (k + 1) m.size)], .bool true] := by
  have hl : m.data.toList.length = m.size := by simp
  unfold boxV boxOf
  rw [if_pos ⟨h, by omega, by omega⟩]
  simp only
  rw [hk, mkB_extract, mkB_extract, show ((k : Int)).toNat = k by omega, List.drop_zero, Nat.sub_zero, List.take_of_length_le (l := m.data.toList.drop (k + 1)) (by simp)]
theorem byte_to_int (b : UInt8) : wrap64 (b.toNat : Int) = (b.toNat : Int) := by
  have := b.toNat_lt
  unfold wrap64
  omega
theorem specB_no (b : UInt8) (h : b.toNat < 33 ∨ 126 < b.toNat ∨ b = 60 ∨ b = 62) : specB b = false := by
  unfold specB nameB
  rcases h with h | h | rfl | rfl
  · rw [decide_eq_false (by omega)]; rfl
  · rw [decide_eq_false (by omega : ¬ b.toNat ≤ 126)]; simp
  · rfl
  · rfl
theorem specB_yes (b : UInt8) (h1 : 33 ≤ b.toNat) (h2 : b.toNat ≤ 126) (h3 : b ≠ 60) (h4 : b ≠ 62) : specB b = true := by
  unfold specB nameB
  rw [decide_eq_true h1, decide_eq_true h2, beq_eq_false_iff_ne.2 h3, beq_eq_false_iff_ne.2 h4]
  rfl
theorem all_step (p : UInt8 → Bool) (m : ByteArray) (k : Nat) (h : k < m.size) : (m.data.toList.take (k + 1)).all p = ((m.data.toList.take k).all p && p m[k]) := by
  rw [all_take p _ k (by simpa using h), byte_at m k h]
theorem all_no (p : UInt8 → Bool) (m : ByteArray) (k : Nat) (h : k < m.size) (hp : p m[k] = false) : m.data.toList.all p = false :=
  all_false p _ k (by simpa using h) (by rw [byte_at m k h]; exact hp)

set_option maxRecDepth 100000 in
set_option maxHeartbeats 4000000 in
theorem specOne_any (s : ByteArray) (w : World) (hs : s.size ≤ 1048576) (h0 : 0 < s.size) :
    Calls Tryd.prog 41 #[.string s] w fun e w' => e = .returned (oneV s.data.toList) ∧ Below w.heap.size w w' := by
  have hlen : s.data.toList.length = s.size := by simp
  have LA := Lib.hid (fun w => last_any s 60 w hs)
  have b60 : (((60 : UInt8).toNat : Nat) : Int) = 60 := rfl
  have b64 : (((64 : UInt8).toNat : Nat) : Int) = 64 := rfl
  rw [b60] at LA
  unfold oneV
  have htw : twoOf s.data.toList = if 0 ≤ lastI 60 s.data.toList ∧ s.data.toList.getD (s.data.toList.length - 1) 0 = 62 then (unqL (s.data.toList.take (lastI 60 s.data.toList).toNat), (s.data.toList.drop ((lastI 60 s.data.toList).toNat + 1)).take (s.data.toList.length - 1 - ((lastI 60 s.data.toList).toNat + 1))) else ([], s.data.toList) := rfl
  have hspec := lastI_spec 60 s.data.toList
  generalize lastI 60 s.data.toList = n at LA htw hspec
  rw [hlen, byte_at s (s.size - 1) (by omega)] at htw
  have i0 : (0 : Int) ≤ (s.size : Int) - 1 := by omega
  have i1 : (s.size : Int) - 1 < (s.size : Int) := by omega
  have i2 : s.size - 1 < s.size := by omega
  have i3 : 1 ≤ s.size := by omega
  have hyes : (∃ i : Nat, n = (i : Int) ∧ s[s.size - 1] = 62 ∧ i + 1 ≤ s.size - 1) ∨ ¬ (0 ≤ n ∧ s[s.size - 1] = 62) := by
    by_cases hy : 0 ≤ n ∧ s[s.size - 1] = 62
    · left
      rcases hspec with ⟨h, _⟩ | ⟨i, h, h3, h4, _⟩
      · omega
      · refine ⟨i, h, hy.2, ?_⟩
        rw [hlen] at h3
        by_cases he : i = s.size - 1
        · exfalso
          subst he
          have := byte_some s (s.size - 1) (by omega)
          rw [h4, hy.2] at this
          cases this
        · omega
    · exact .inr hy
  clear hspec
  rcases hyes with ⟨i, rfl, h62, hi⟩ | hno
  · rw [if_pos ⟨by omega, h62⟩, show ((i : Int)).toNat = i by omega] at htw
    have g1 : ((s[s.size - 1].toNat : Int) == 62) = true := by rw [h62]; rfl
    have g2 : decide ((0 : Int) ≤ (i : Int)) = true := by simp
    have j1 : (0 : Int) ≤ (i : Int) := by omega
    have j2 : (i : Int) ≤ (s.size : Int) := by omega
    have j3 : (0 : Int) ≤ (i : Int) + 1 := by omega
    have j4 : (i : Int) + 1 ≤ (s.size : Int) - 1 := by omega
    have j5 : (s.size : Int) - 1 ≤ (s.size : Int) := by omega
    have UQ := Lib.hid (fun w => specUnquote_any (s.extract 0 i) w (by rw [ByteArray.size_extract]; omega))
    rw [Lib.extract_data, List.drop_zero, Nat.sub_zero] at UQ
    rw [htw]
    generalize unqL (s.data.toList.take i) = nm at UQ ⊢
    obtain ⟨m, hm⟩ : ∃ m, s.extract (i + 1) (s.size - 1) = m := ⟨_, rfl⟩
    have hms : m.size ≤ 1048576 := by rw [← hm, ByteArray.size_extract]; omega
    rw [← Lib.extract_data s (i + 1) (s.size - 1), hm]
    have HM := Lib.hid hm
    clear htw hi h62 hm h0 hlen
    go_enter Tryd.func41, Tryd.ntmps41
    go_wp2_with fail
    refine (LA.out _).mono ?_
    rintro e w1 ⟨rfl, rfl⟩
    go_wp2_with fail
    refine (UQ.out _).mono ?_
    rintro e w2 ⟨rfl, hB2⟩
    have hR0 : ((w.alloc (.cells #[.string ⟨#[]⟩, .string ⟨#[]⟩, .string ⟨#[]⟩] 29)).alloc (.cells #[.string ⟨#[]⟩, .string ⟨#[]⟩, .string ⟨#[]⟩] 29)).heap[w.heap.size]? = some (.cells #[.string ⟨#[]⟩, .string ⟨#[]⟩, .string ⟨#[]⟩] 29 (0, 0)) := (Below.heap_alloc _ _ _ (by simp)).trans (new_three w _ _ _ _)
    have hX0 := new_three (w.alloc (.cells #[.string ⟨#[]⟩, .string ⟨#[]⟩, .string ⟨#[]⟩] 29)) (.string ⟨#[]⟩) (.string ⟨#[]⟩) (.string ⟨#[]⟩) 29
    rw [World.size_alloc] at hX0
    have hB0 : Below w.heap.size w ((w.alloc (.cells #[.string ⟨#[]⟩, .string ⟨#[]⟩, .string ⟨#[]⟩] 29)).alloc (.cells #[.string ⟨#[]⟩, .string ⟨#[]⟩, .string ⟨#[]⟩] 29)) := ((Below.refl _ _).alloc (Nat.le_refl _) _).alloc (by simp) _
    have hR2 := (hB2.block _ (by simp; omega)).trans hR0
    have hX2 := (hB2.block _ (by simp)).trans hX0
    have hB3 := hB0.trans (hB2.mono (by simp; omega))
    have hXW := heap_setCell_same w2 (w.heap.size + 1) 0 _ _ (.string (mkB nm)) hX2
    simp only [List.setIfInBounds_toArray, List.set_cons_zero] at hXW
    have hRW := (Below.heap_setCell w2 ⟨w.heap.size + 1, 0, none⟩ (.string (mkB nm)) w.heap.size (by simp)).trans hR2
    have hBW := hB3.setCell (p := ⟨w.heap.size + 1, 0, none⟩) (by simp) (.string (mkB nm))
    obtain ⟨_, _, _⟩ := three_free hX2
    obtain ⟨_, _, _⟩ := three_cells hX2
    obtain ⟨N, hN⟩ : ∃ N, mkB nm = N := ⟨_, rfl⟩
    have HNM := Lib.hid hN
    rw [hN] at hXW hRW hBW ⊢
    clear hR0 hX0 hB0 hR2 hX2 hB3 hB2 hN
    go_wp2_with fail
    obtain ⟨W, hW⟩ : ∃ W, w2.setCell ⟨w.heap.size + 1, 0, none⟩ (.string N) = W := ⟨_, rfl⟩
    rw [hW] at hRW hXW hBW
    rw [hW, HM.out]
    have HR := Lib.hid hRW
    have HX := Lib.hid hXW
    have HB := Lib.hid hBW
    obtain ⟨x0, x1, x2⟩ := three_cells hXW
    obtain ⟨y0, y1, y2⟩ := three_free hXW
    obtain ⟨z0, z1, z2⟩ := three_free hRW
    obtain ⟨z3, z4, z5⟩ := three_cells hRW
    clear hRW hXW hBW hW
    go_wp2_with fail
    go_loop [7] (fun a => ∃ k : Nat, k ≤ m.size ∧ a = .int .i64 (k : Int) ∧ Hid ((m.data.toList.take k).all specB = true)) (fun a => m.size - (intOf a).toNat)
    case atStart => exact ⟨0, Nat.zero_le _, rfl, Lib.hid (by simp)⟩
    case round =>
      obtain ⟨k, hk, rfl, HA⟩ := hrel
      by_cases hlt : k < m.size
      · have d1 : decide ((k : Int) < (m.size : Int)) = true := by simp; omega
        have k1 : (0 : Int) ≤ (k : Int) := by omega
        have k2 : (k : Int) < (m.size : Int) := by omega
        have wq : wrap64 (m[k].toNat : Int) = (m[k].toNat : Int) := byte_to_int _
        by_cases hin : 33 ≤ m[k].toNat ∧ m[k].toNat ≤ 126
        · have INX := Lib.hid (fun w => in_yes (m[k].toNat : Int) 33 126 w (by omega) (by omega))
          by_cases h60 : m[k] = 60
          · have d2 : ((m[k].toNat : Int) == 60) = true := by rw [h60]; rfl
            have HV : Hid (boxV nm m.data.toList = noV N) := Lib.hid (by rw [boxV_no (fun h => by have h1 := h.1; rw [all_no specB m k hlt (specB_no _ (by simp [h60]))] at h1; cases h1), HNM.out])
            clear h60 HA hin
            go_wp2_with (go_at_call 64; refine (INX.out _).mono ?_; rintro e w' ⟨rfl, hw⟩; rw [hw]; clear hw w')
            have q := three_cells (set_three HR.out (.string N) (.string ⟨#[]⟩) (.string ⟨#[]⟩))
            refine bodyPost_ret (v := noV N) (by simp [results, Tryd.results41, go_sem, q.1, q.2.1, q.2.2, noV]) rfl ⟨by rw [HV.out], ?_⟩
            exact below_three HB.out (Nat.le_refl _) _ _ _
          · have d2 : ((m[k].toNat : Int) == 60) = false := ne_byte (b := 60) h60
            by_cases h62 : m[k] = 62
            · have d3 : ((m[k].toNat : Int) == 62) = true := by rw [h62]; rfl
              have HV : Hid (boxV nm m.data.toList = noV N) := Lib.hid (by rw [boxV_no (fun h => by have h1 := h.1; rw [all_no specB m k hlt (specB_no _ (by simp [h62]))] at h1; cases h1), HNM.out])
              clear h60 h62 HA hin
              go_wp2_with (go_at_call 64; refine (INX.out _).mono ?_; rintro e w' ⟨rfl, hw⟩; rw [hw]; clear hw w')
              have q := three_cells (set_three HR.out (.string N) (.string ⟨#[]⟩) (.string ⟨#[]⟩))
              refine bodyPost_ret (v := noV N) (by simp [results, Tryd.results41, go_sem, q.1, q.2.1, q.2.2, noV]) rfl ⟨by rw [HV.out], ?_⟩
              exact below_three HB.out (Nat.le_refl _) _ _ _
            · have d3 : ((m[k].toNat : Int) == 62) = false := ne_byte (b := 62) h62
              have HN : Hid ((m.data.toList.take (k + 1)).all specB = true) := Lib.hid (by rw [all_step specB m k hlt, HA.out, specB_yes _ hin.1 hin.2 h60 h62]; rfl)
              clear h60 h62 HA hin
              go_wp2_with (go_at_call 64; refine (INX.out _).mono ?_; rintro e w' ⟨rfl, hw⟩; rw [hw]; clear hw w')
              go_round
              case rel => exact ⟨k + 1, by omega, by go_num, HN⟩
              case measure => simp [intOf]; omega
        · have INX := Lib.hid (fun w => in_no (m[k].toNat : Int) 33 126 w (by omega))
          have HV : Hid (boxV nm m.data.toList = noV N) := Lib.hid (by rw [boxV_no (fun h => by have h1 := h.1; rw [all_no specB m k hlt (specB_no _ (by omega))] at h1; cases h1), HNM.out])
          clear HA hin
          go_wp2_with (go_at_call 64; refine (INX.out _).mono ?_; rintro e w' ⟨rfl, hw⟩; rw [hw]; clear hw w')
          have q := three_cells (set_three HR.out (.string N) (.string ⟨#[]⟩) (.string ⟨#[]⟩))
          refine bodyPost_ret (v := noV N) (by simp [results, Tryd.results41, go_sem, q.1, q.2.1, q.2.2, noV]) rfl ⟨by rw [HV.out], ?_⟩
          exact below_three HB.out (Nat.le_refl _) _ _ _
      · have d1 : decide ((k : Int) < (m.size : Int)) = false := by simp; omega
        have HALL : Hid (m.data.toList.all specB = true) := Lib.hid (by
          have := HA.out
          rwa [List.take_of_length_le (by simp; omega)] at this)
        have LB := Lib.hid (fun w => last_any m 64 w hms)
        rw [b64] at LB
        have hbd := lastI_bounds 64 m.data.toList
        obtain ⟨t, ht⟩ : ∃ t, lastI 64 m.data.toList = t := ⟨_, rfl⟩
        rw [ht] at hbd LB
        rw [show m.data.toList.length = m.size by simp] at hbd
        have HT := Lib.hid ht
        clear ht HA
        by_cases c1 : t < 1
        · have g3 : decide (t < 1) = true := by simpa using c1
          have HV : Hid (boxV nm m.data.toList = noV N) := Lib.hid (by rw [boxV_no (fun h => by have h1 := h.2.1; rw [HT.out] at h1; omega), HNM.out])
          clear hbd c1 HALL HT
          go_wp2_with (go_at_call 63; refine (LB.out _).mono ?_; rintro e w' ⟨rfl, hw⟩; rw [hw]; clear hw w')
          have q := three_cells (set_three HR.out (.string N) (.string ⟨#[]⟩) (.string ⟨#[]⟩))
          refine bodyPost_ret (v := noV N) (by simp [results, Tryd.results41, go_sem, q.1, q.2.1, q.2.2, noV]) rfl ⟨by rw [HV.out], ?_⟩
          exact below_three HB.out (Nat.le_refl _) _ _ _
        · have g3 : decide (t < 1) = false := by simpa using c1
          by_cases c2 : t = (m.size : Int) - 1
          · have g4 : (t == (m.size : Int) - 1) = true := by rw [beq_iff_eq]; exact c2
            have HV : Hid (boxV nm m.data.toList = noV N) := Lib.hid (by rw [boxV_no (fun h => by have h1 := h.2.2; rw [HT.out, show m.data.toList.length = m.size by simp] at h1; omega), HNM.out])
            clear hbd c1 c2 HALL HT
            go_wp2_with (go_at_call 63; refine (LB.out _).mono ?_; rintro e w' ⟨rfl, hw⟩; rw [hw]; clear hw w')
            have q := three_cells (set_three HR.out (.string N) (.string ⟨#[]⟩) (.string ⟨#[]⟩))
            refine bodyPost_ret (v := noV N) (by simp [results, Tryd.results41, go_sem, q.1, q.2.1, q.2.2, noV]) rfl ⟨by rw [HV.out], ?_⟩
            exact below_three HB.out (Nat.le_refl _) _ _ _
          · have g4 : (t == (m.size : Int) - 1) = false := by rw [beq_eq_false_iff_ne]; exact c2
            obtain ⟨o, rfl⟩ : ∃ o : Nat, t = (o : Int) := ⟨t.toNat, by omega⟩
            have HV : Hid (boxV nm m.data.toList = .tuple #[.agg #[.string N, .string (m.extract 0 o), .string (m.extract (o + 1) m.size)], .bool true]) := Lib.hid (by rw [boxV_yes HALL.out HT.out (by omega) (by omega), HNM.out])
            have o1 : (0 : Int) ≤ (o : Int) := by omega
            have o2 : (o : Int) ≤ (m.size : Int) := by omega
            have o3 : (0 : Int) ≤ (o : Int) + 1 := by omega
            have o4 : (o : Int) + 1 ≤ (m.size : Int) := by omega
            have hX1 : (W.setCell ⟨w.heap.size + 1, 1, none⟩ (.string (m.extract 0 o))).heap[w.heap.size + 1]? = _ := heap_setCell_same W _ 1 _ _ _ HX.out
            have hX2 : ((W.setCell ⟨w.heap.size + 1, 1, none⟩ (.string (m.extract 0 o))).setCell ⟨w.heap.size + 1, 2, none⟩ (.string (m.extract (o + 1) m.size))).heap[w.heap.size + 1]? = _ := heap_setCell_same _ _ 2 _ _ _ hX1
            simp only [List.setIfInBounds_toArray, List.set_cons_zero, List.set_cons_succ] at hX1 hX2
            have hR2 : ((W.setCell ⟨w.heap.size + 1, 1, none⟩ (.string (m.extract 0 o))).setCell ⟨w.heap.size + 1, 2, none⟩ (.string (m.extract (o + 1) m.size))).heap[w.heap.size]? = some (.cells #[.string ⟨#[]⟩, .string ⟨#[]⟩, .string ⟨#[]⟩] 29 (0, 0)) := (Below.heap_setCell _ _ _ _ (by simp)).trans ((Below.heap_setCell _ _ _ _ (by simp)).trans HR.out)
            have hB2 : Below w.heap.size w ((W.setCell ⟨w.heap.size + 1, 1, none⟩ (.string (m.extract 0 o))).setCell ⟨w.heap.size + 1, 2, none⟩ (.string (m.extract (o + 1) m.size))) := (HB.out.setCell (p := ⟨w.heap.size + 1, 1, none⟩) (by simp) _).setCell (p := ⟨w.heap.size + 1, 2, none⟩) (by simp) _
            have v1 := (three_free hX1).2.2
            have v2 := (three_cells hX1).2.2
            obtain ⟨v3, v4, v5⟩ := three_cells hX2
            obtain ⟨v6, v7, v8⟩ := three_free hR2
            obtain ⟨v9, va, vb⟩ := three_cells hR2
            have HR2 := Lib.hid hR2
            have HB2 := Lib.hid hB2
            clear hX1 hX2 hR2 hB2 hbd c1 c2 HALL HT
            go_wp2_with (go_at_call 63; refine (LB.out _).mono ?_; rintro e w' ⟨rfl, hw⟩; rw [hw]; clear hw w')
            have q := three_cells (set_three HR2.out (.string N) (.string (m.extract 0 o)) (.string (m.extract (o + 1) m.size)))
            refine bodyPost_ret (v := .tuple #[.agg #[.string N, .string (m.extract 0 o), .string (m.extract (o + 1) m.size)], .bool true]) (by simp [results, Tryd.results41, go_sem, q.1, q.2.1, q.2.2]) rfl ⟨by rw [HV.out], ?_⟩
            exact below_three HB2.out (Nat.le_refl _) _ _ _
  · have htw' : twoOf s.data.toList = ([], s.data.toList) := by rw [htw, if_neg hno]
    rw [htw']
    have HNM : Hid (mkB [] = (⟨#[]⟩ : ByteArray)) := Lib.hid rfl
    have hcond : ((s[s.size - 1].toNat : Int) == 62) = false ∨ (((s[s.size - 1].toNat : Int) == 62) = true ∧ decide ((0 : Int) ≤ n) = false) := by
      by_cases h62 : s[s.size - 1] = 62
      · right
        exact ⟨by rw [h62]; rfl, decide_eq_false (fun h => hno ⟨h, h62⟩)⟩
      · exact .inl (ne_byte (b := 62) h62)
    clear htw htw' hno hlen h0
    have hms : s.size ≤ 1048576 := hs
    have hR0 : ((w.alloc (.cells #[.string ⟨#[]⟩, .string ⟨#[]⟩, .string ⟨#[]⟩] 29)).alloc (.cells #[.string ⟨#[]⟩, .string ⟨#[]⟩, .string ⟨#[]⟩] 29)).heap[w.heap.size]? = some (.cells #[.string ⟨#[]⟩, .string ⟨#[]⟩, .string ⟨#[]⟩] 29 (0, 0)) := (Below.heap_alloc _ _ _ (by simp)).trans (new_three w _ _ _ _)
    have hX0 := new_three (w.alloc (.cells #[.string ⟨#[]⟩, .string ⟨#[]⟩, .string ⟨#[]⟩] 29)) (.string ⟨#[]⟩) (.string ⟨#[]⟩) (.string ⟨#[]⟩) 29
    rw [World.size_alloc] at hX0
    have hB0 : Below w.heap.size w ((w.alloc (.cells #[.string ⟨#[]⟩, .string ⟨#[]⟩, .string ⟨#[]⟩] 29)).alloc (.cells #[.string ⟨#[]⟩, .string ⟨#[]⟩, .string ⟨#[]⟩] 29)) := ((Below.refl _ _).alloc (Nat.le_refl _) _).alloc (by simp) _
    have hRW := hR0
    have hXW := hX0
    have hBW := hB0
    clear hR0 hX0 hB0
    rcases hcond with g1 | ⟨g1, g2⟩
    · go_enter Tryd.func41, Tryd.ntmps41
      go_wp2_with fail
      refine (LA.out _).mono ?_
      rintro e w1 ⟨rfl, hw⟩
      rw [hw]
      clear hw w1
      go_wp2_with fail
      obtain ⟨W, hW⟩ : ∃ W, ((w.alloc (.cells #[.string ⟨#[]⟩, .string ⟨#[]⟩, .string ⟨#[]⟩] 29)).alloc (.cells #[.string ⟨#[]⟩, .string ⟨#[]⟩, .string ⟨#[]⟩] 29)) = W := ⟨_, rfl⟩
      rw [hW] at hRW hXW hBW
      rw [hW]
      have HR := Lib.hid hRW
      have HX := Lib.hid hXW
      have HB := Lib.hid hBW
      obtain ⟨x0, x1, x2⟩ := three_cells hXW
      obtain ⟨y0, y1, y2⟩ := three_free hXW
      obtain ⟨z0, z1, z2⟩ := three_free hRW
      obtain ⟨z3, z4, z5⟩ := three_cells hRW
      clear hRW hXW hBW hW
      go_wp2_with fail
      go_loop [7] (fun a => ∃ k : Nat, k ≤ s.size ∧ a = .int .i64 (k : Int) ∧ Hid ((s.data.toList.take k).all specB = true)) (fun a => s.size - (intOf a).toNat)
      case atStart => exact ⟨0, Nat.zero_le _, rfl, Lib.hid (by simp)⟩
      case round =>
        obtain ⟨k, hk, rfl, HA⟩ := hrel
        by_cases hlt : k < s.size
        · have d1 : decide ((k : Int) < (s.size : Int)) = true := by simp; omega
          have k1 : (0 : Int) ≤ (k : Int) := by omega
          have k2 : (k : Int) < (s.size : Int) := by omega
          have wq : wrap64 (s[k].toNat : Int) = (s[k].toNat : Int) := byte_to_int _
          by_cases hin : 33 ≤ s[k].toNat ∧ s[k].toNat ≤ 126
          · have INX := Lib.hid (fun w => in_yes (s[k].toNat : Int) 33 126 w (by omega) (by omega))
            by_cases h60 : s[k] = 60
            · have d2 : ((s[k].toNat : Int) == 60) = true := by rw [h60]; rfl
              have HV : Hid (boxV [] s.data.toList = noV (⟨#[]⟩ : ByteArray)) := Lib.hid (by rw [boxV_no (fun h => by have h1 := h.1; rw [all_no specB s k hlt (specB_no _ (by simp [h60]))] at h1; cases h1), HNM.out])
              clear h60 HA hin
              go_wp2_with (go_at_call 64; refine (INX.out _).mono ?_; rintro e w' ⟨rfl, hw⟩; rw [hw]; clear hw w')
              have q := three_cells (set_three HR.out (.string (⟨#[]⟩ : ByteArray)) (.string ⟨#[]⟩) (.string ⟨#[]⟩))
              refine bodyPost_ret (v := noV (⟨#[]⟩ : ByteArray)) (by simp [results, Tryd.results41, go_sem, q.1, q.2.1, q.2.2, noV]) rfl ⟨by rw [HV.out], ?_⟩
              exact below_three HB.out (Nat.le_refl _) _ _ _
            · have d2 : ((s[k].toNat : Int) == 60) = false := ne_byte (b := 60) h60
              by_cases h62 : s[k] = 62
              · have d3 : ((s[k].toNat : Int) == 62) = true := by rw [h62]; rfl
                have HV : Hid (boxV [] s.data.toList = noV (⟨#[]⟩ : ByteArray)) := Lib.hid (by rw [boxV_no (fun h => by have h1 := h.1; rw [all_no specB s k hlt (specB_no _ (by simp [h62]))] at h1; cases h1), HNM.out])
                clear h60 h62 HA hin
                go_wp2_with (go_at_call 64; refine (INX.out _).mono ?_; rintro e w' ⟨rfl, hw⟩; rw [hw]; clear hw w')
                have q := three_cells (set_three HR.out (.string (⟨#[]⟩ : ByteArray)) (.string ⟨#[]⟩) (.string ⟨#[]⟩))
                refine bodyPost_ret (v := noV (⟨#[]⟩ : ByteArray)) (by simp [results, Tryd.results41, go_sem, q.1, q.2.1, q.2.2, noV]) rfl ⟨by rw [HV.out], ?_⟩
                exact below_three HB.out (Nat.le_refl _) _ _ _
              · have d3 : ((s[k].toNat : Int) == 62) = false := ne_byte (b := 62) h62
                have HN : Hid ((s.data.toList.take (k + 1)).all specB = true) := Lib.hid (by rw [all_step specB s k hlt, HA.out, specB_yes _ hin.1 hin.2 h60 h62]; rfl)
                clear h60 h62 HA hin
                go_wp2_with (go_at_call 64; refine (INX.out _).mono ?_; rintro e w' ⟨rfl, hw⟩; rw [hw]; clear hw w')
                go_round
                case rel => exact ⟨k + 1, by omega, by go_num, HN⟩
                case measure => simp [intOf]; omega
          · have INX := Lib.hid (fun w => in_no (s[k].toNat : Int) 33 126 w (by omega))
            have HV : Hid (boxV [] s.data.toList = noV (⟨#[]⟩ : ByteArray)) := Lib.hid (by rw [boxV_no (fun h => by have h1 := h.1; rw [all_no specB s k hlt (specB_no _ (by omega))] at h1; cases h1), HNM.out])
            clear HA hin
            go_wp2_with (go_at_call 64; refine (INX.out _).mono ?_; rintro e w' ⟨rfl, hw⟩; rw [hw]; clear hw w')
            have q := three_cells (set_three HR.out (.string (⟨#[]⟩ : ByteArray)) (.string ⟨#[]⟩) (.string ⟨#[]⟩))
            refine bodyPost_ret (v := noV (⟨#[]⟩ : ByteArray)) (by simp [results, Tryd.results41, go_sem, q.1, q.2.1, q.2.2, noV]) rfl ⟨by rw [HV.out], ?_⟩
            exact below_three HB.out (Nat.le_refl _) _ _ _
        · have d1 : decide ((k : Int) < (s.size : Int)) = false := by simp; omega
          have HALL : Hid (s.data.toList.all specB = true) := Lib.hid (by
            have := HA.out
            rwa [List.take_of_length_le (by simp; omega)] at this)
          have LB := Lib.hid (fun w => last_any s 64 w hms)
          rw [b64] at LB
          have hbd := lastI_bounds 64 s.data.toList
          obtain ⟨t, ht⟩ : ∃ t, lastI 64 s.data.toList = t := ⟨_, rfl⟩
          rw [ht] at hbd LB
          rw [show s.data.toList.length = s.size by simp] at hbd
          have HT := Lib.hid ht
          clear ht HA
          by_cases c1 : t < 1
          · have g3 : decide (t < 1) = true := by simpa using c1
            have HV : Hid (boxV [] s.data.toList = noV (⟨#[]⟩ : ByteArray)) := Lib.hid (by rw [boxV_no (fun h => by have h1 := h.2.1; rw [HT.out] at h1; omega), HNM.out])
            clear hbd c1 HALL HT
            go_wp2_with (go_at_call 63; refine (LB.out _).mono ?_; rintro e w' ⟨rfl, hw⟩; rw [hw]; clear hw w')
            have q := three_cells (set_three HR.out (.string (⟨#[]⟩ : ByteArray)) (.string ⟨#[]⟩) (.string ⟨#[]⟩))
            refine bodyPost_ret (v := noV (⟨#[]⟩ : ByteArray)) (by simp [results, Tryd.results41, go_sem, q.1, q.2.1, q.2.2, noV]) rfl ⟨by rw [HV.out], ?_⟩
            exact below_three HB.out (Nat.le_refl _) _ _ _
          · have g3 : decide (t < 1) = false := by simpa using c1
            by_cases c2 : t = (s.size : Int) - 1
            · have g4 : (t == (s.size : Int) - 1) = true := by rw [beq_iff_eq]; exact c2
              have HV : Hid (boxV [] s.data.toList = noV (⟨#[]⟩ : ByteArray)) := Lib.hid (by rw [boxV_no (fun h => by have h1 := h.2.2; rw [HT.out, show s.data.toList.length = s.size by simp] at h1; omega), HNM.out])
              clear hbd c1 c2 HALL HT
              go_wp2_with (go_at_call 63; refine (LB.out _).mono ?_; rintro e w' ⟨rfl, hw⟩; rw [hw]; clear hw w')
              have q := three_cells (set_three HR.out (.string (⟨#[]⟩ : ByteArray)) (.string ⟨#[]⟩) (.string ⟨#[]⟩))
              refine bodyPost_ret (v := noV (⟨#[]⟩ : ByteArray)) (by simp [results, Tryd.results41, go_sem, q.1, q.2.1, q.2.2, noV]) rfl ⟨by rw [HV.out], ?_⟩
              exact below_three HB.out (Nat.le_refl _) _ _ _
            · have g4 : (t == (s.size : Int) - 1) = false := by rw [beq_eq_false_iff_ne]; exact c2
              obtain ⟨o, rfl⟩ : ∃ o : Nat, t = (o : Int) := ⟨t.toNat, by omega⟩
              have HV : Hid (boxV [] s.data.toList = .tuple #[.agg #[.string (⟨#[]⟩ : ByteArray), .string (s.extract 0 o), .string (s.extract (o + 1) s.size)], .bool true]) := Lib.hid (by rw [boxV_yes HALL.out HT.out (by omega) (by omega), HNM.out])
              have o1 : (0 : Int) ≤ (o : Int) := by omega
              have o2 : (o : Int) ≤ (s.size : Int) := by omega
              have o3 : (0 : Int) ≤ (o : Int) + 1 := by omega
              have o4 : (o : Int) + 1 ≤ (s.size : Int) := by omega
              have hX1 : (W.setCell ⟨w.heap.size + 1, 1, none⟩ (.string (s.extract 0 o))).heap[w.heap.size + 1]? = _ := heap_setCell_same W _ 1 _ _ _ HX.out
              have hX2 : ((W.setCell ⟨w.heap.size + 1, 1, none⟩ (.string (s.extract 0 o))).setCell ⟨w.heap.size + 1, 2, none⟩ (.string (s.extract (o + 1) s.size))).heap[w.heap.size + 1]? = _ := heap_setCell_same _ _ 2 _ _ _ hX1
              simp only [List.setIfInBounds_toArray, List.set_cons_zero, List.set_cons_succ] at hX1 hX2
              have hR2 : ((W.setCell ⟨w.heap.size + 1, 1, none⟩ (.string (s.extract 0 o))).setCell ⟨w.heap.size + 1, 2, none⟩ (.string (s.extract (o + 1) s.size))).heap[w.heap.size]? = some (.cells #[.string ⟨#[]⟩, .string ⟨#[]⟩, .string ⟨#[]⟩] 29 (0, 0)) := (Below.heap_setCell _ _ _ _ (by simp)).trans ((Below.heap_setCell _ _ _ _ (by simp)).trans HR.out)
              have hB2 : Below w.heap.size w ((W.setCell ⟨w.heap.size + 1, 1, none⟩ (.string (s.extract 0 o))).setCell ⟨w.heap.size + 1, 2, none⟩ (.string (s.extract (o + 1) s.size))) := (HB.out.setCell (p := ⟨w.heap.size + 1, 1, none⟩) (by simp) _).setCell (p := ⟨w.heap.size + 1, 2, none⟩) (by simp) _
              have v1 := (three_free hX1).2.2
              have v2 := (three_cells hX1).2.2
              obtain ⟨v3, v4, v5⟩ := three_cells hX2
              obtain ⟨v6, v7, v8⟩ := three_free hR2
              obtain ⟨v9, va, vb⟩ := three_cells hR2
              have HR2 := Lib.hid hR2
              have HB2 := Lib.hid hB2
              clear hX1 hX2 hR2 hB2 hbd c1 c2 HALL HT
              go_wp2_with (go_at_call 63; refine (LB.out _).mono ?_; rintro e w' ⟨rfl, hw⟩; rw [hw]; clear hw w')
              have q := three_cells (set_three HR2.out (.string (⟨#[]⟩ : ByteArray)) (.string (s.extract 0 o)) (.string (s.extract (o + 1) s.size)))
              refine bodyPost_ret (v := .tuple #[.agg #[.string (⟨#[]⟩ : ByteArray), .string (s.extract 0 o), .string (s.extract (o + 1) s.size)], .bool true]) (by simp [results, Tryd.results41, go_sem, q.1, q.2.1, q.2.2]) rfl ⟨by rw [HV.out], ?_⟩
              exact below_three HB2.out (Nat.le_refl _) _ _ _
    · go_enter Tryd.func41, Tryd.ntmps41
      go_wp2_with fail
      refine (LA.out _).mono ?_
      rintro e w1 ⟨rfl, hw⟩
      rw [hw]
      clear hw w1
      go_wp2_with fail
      obtain ⟨W, hW⟩ : ∃ W, ((w.alloc (.cells #[.string ⟨#[]⟩, .string ⟨#[]⟩, .string ⟨#[]⟩] 29)).alloc (.cells #[.string ⟨#[]⟩, .string ⟨#[]⟩, .string ⟨#[]⟩] 29)) = W := ⟨_, rfl⟩
      rw [hW] at hRW hXW hBW
      rw [hW]
      have HR := Lib.hid hRW
      have HX := Lib.hid hXW
      have HB := Lib.hid hBW
      obtain ⟨x0, x1, x2⟩ := three_cells hXW
      obtain ⟨y0, y1, y2⟩ := three_free hXW
      obtain ⟨z0, z1, z2⟩ := three_free hRW
      obtain ⟨z3, z4, z5⟩ := three_cells hRW
      clear hRW hXW hBW hW
      go_wp2_with fail
      go_loop [7] (fun a => ∃ k : Nat, k ≤ s.size ∧ a = .int .i64 (k : Int) ∧ Hid ((s.data.toList.take k).all specB = true)) (fun a => s.size - (intOf a).toNat)
      case atStart => exact ⟨0, Nat.zero_le _, rfl, Lib.hid (by simp)⟩
      case round =>
        obtain ⟨k, hk, rfl, HA⟩ := hrel
        by_cases hlt : k < s.size
        · have d1 : decide ((k : Int) < (s.size : Int)) = true := by simp; omega
          have k1 : (0 : Int) ≤ (k : Int) := by omega
          have k2 : (k : Int) < (s.size : Int) := by omega
          have wq : wrap64 (s[k].toNat : Int) = (s[k].toNat : Int) := byte_to_int _
          by_cases hin : 33 ≤ s[k].toNat ∧ s[k].toNat ≤ 126
          · have INX := Lib.hid (fun w => in_yes (s[k].toNat : Int) 33 126 w (by omega) (by omega))
            by_cases h60 : s[k] = 60
            · have d2 : ((s[k].toNat : Int) == 60) = true := by rw [h60]; rfl
              have HV : Hid (boxV [] s.data.toList = noV (⟨#[]⟩ : ByteArray)) := Lib.hid (by rw [boxV_no (fun h => by have h1 := h.1; rw [all_no specB s k hlt (specB_no _ (by simp [h60]))] at h1; cases h1), HNM.out])
              clear h60 HA hin
              go_wp2_with (go_at_call 64; refine (INX.out _).mono ?_; rintro e w' ⟨rfl, hw⟩; rw [hw]; clear hw w')
              have q := three_cells (set_three HR.out (.string (⟨#[]⟩ : ByteArray)) (.string ⟨#[]⟩) (.string ⟨#[]⟩))
              refine bodyPost_ret (v := noV (⟨#[]⟩ : ByteArray)) (by simp [results, Tryd.results41, go_sem, q.1, q.2.1, q.2.2, noV]) rfl ⟨by rw [HV.out], ?_⟩
              exact below_three HB.out (Nat.le_refl _) _ _ _
            · have d2 : ((s[k].toNat : Int) == 60) = false := ne_byte (b := 60) h60
              by_cases h62 : s[k] = 62
              · have d3 : ((s[k].toNat : Int) == 62) = true := by rw [h62]; rfl
                have HV : Hid (boxV [] s.data.toList = noV (⟨#[]⟩ : ByteArray)) := Lib.hid (by rw [boxV_no (fun h => by have h1 := h.1; rw [all_no specB s k hlt (specB_no _ (by simp [h62]))] at h1; cases h1), HNM.out])
                clear h60 h62 HA hin
                go_wp2_with (go_at_call 64; refine (INX.out _).mono ?_; rintro e w' ⟨rfl, hw⟩; rw [hw]; clear hw w')
                have q := three_cells (set_three HR.out (.string (⟨#[]⟩ : ByteArray)) (.string ⟨#[]⟩) (.string ⟨#[]⟩))
                refine bodyPost_ret (v := noV (⟨#[]⟩ : ByteArray)) (by simp [results, Tryd.results41, go_sem, q.1, q.2.1, q.2.2, noV]) rfl ⟨by rw [HV.out], ?_⟩
                exact below_three HB.out (Nat.le_refl _) _ _ _
              · have d3 : ((s[k].toNat : Int) == 62) = false := ne_byte (b := 62) h62
                have HN : Hid ((s.data.toList.take (k + 1)).all specB = true) := Lib.hid (by rw [all_step specB s k hlt, HA.out, specB_yes _ hin.1 hin.2 h60 h62]; rfl)
                clear h60 h62 HA hin
                go_wp2_with (go_at_call 64; refine (INX.out _).mono ?_; rintro e w' ⟨rfl, hw⟩; rw [hw]; clear hw w')
                go_round
                case rel => exact ⟨k + 1, by omega, by go_num, HN⟩
                case measure => simp [intOf]; omega
          · have INX := Lib.hid (fun w => in_no (s[k].toNat : Int) 33 126 w (by omega))
            have HV : Hid (boxV [] s.data.toList = noV (⟨#[]⟩ : ByteArray)) := Lib.hid (by rw [boxV_no (fun h => by have h1 := h.1; rw [all_no specB s k hlt (specB_no _ (by omega))] at h1; cases h1), HNM.out])
            clear HA hin
            go_wp2_with (go_at_call 64; refine (INX.out _).mono ?_; rintro e w' ⟨rfl, hw⟩; rw [hw]; clear hw w')
            have q := three_cells (set_three HR.out (.string (⟨#[]⟩ : ByteArray)) (.string ⟨#[]⟩) (.string ⟨#[]⟩))
            refine bodyPost_ret (v := noV (⟨#[]⟩ : ByteArray)) (by simp [results, Tryd.results41, go_sem, q.1, q.2.1, q.2.2, noV]) rfl ⟨by rw [HV.out], ?_⟩
            exact below_three HB.out (Nat.le_refl _) _ _ _
        · have d1 : decide ((k : Int) < (s.size : Int)) = false := by simp; omega
          have HALL : Hid (s.data.toList.all specB = true) := Lib.hid (by
            have := HA.out
            rwa [List.take_of_length_le (by simp; omega)] at this)
          have LB := Lib.hid (fun w => last_any s 64 w hms)
          rw [b64] at LB
          have hbd := lastI_bounds 64 s.data.toList
          obtain ⟨t, ht⟩ : ∃ t, lastI 64 s.data.toList = t := ⟨_, rfl⟩
          rw [ht] at hbd LB
          rw [show s.data.toList.length = s.size by simp] at hbd
          have HT := Lib.hid ht
          clear ht HA
          by_cases c1 : t < 1
          · have g3 : decide (t < 1) = true := by simpa using c1
            have HV : Hid (boxV [] s.data.toList = noV (⟨#[]⟩ : ByteArray)) := Lib.hid (by rw [boxV_no (fun h => by have h1 := h.2.1; rw [HT.out] at h1; omega), HNM.out])
            clear hbd c1 HALL HT
            go_wp2_with (go_at_call 63; refine (LB.out _).mono ?_; rintro e w' ⟨rfl, hw⟩; rw [hw]; clear hw w')
            have q := three_cells (set_three HR.out (.string (⟨#[]⟩ : ByteArray)) (.string ⟨#[]⟩) (.string ⟨#[]⟩))
            refine bodyPost_ret (v := noV (⟨#[]⟩ : ByteArray)) (by simp [results, Tryd.results41, go_sem, q.1, q.2.1, q.2.2, noV]) rfl ⟨by rw [HV.out], ?_⟩
            exact below_three HB.out (Nat.le_refl _) _ _ _
          · have g3 : decide (t < 1) = false := by simpa using c1
            by_cases c2 : t = (s.size : Int) - 1
            · have g4 : (t == (s.size : Int) - 1) = true := by rw [beq_iff_eq]; exact c2
              have HV : Hid (boxV [] s.data.toList = noV (⟨#[]⟩ : ByteArray)) := Lib.hid (by rw [boxV_no (fun h => by have h1 := h.2.2; rw [HT.out, show s.data.toList.length = s.size by simp] at h1; omega), HNM.out])
              clear hbd c1 c2 HALL HT
              go_wp2_with (go_at_call 63; refine (LB.out _).mono ?_; rintro e w' ⟨rfl, hw⟩; rw [hw]; clear hw w')
              have q := three_cells (set_three HR.out (.string (⟨#[]⟩ : ByteArray)) (.string ⟨#[]⟩) (.string ⟨#[]⟩))
              refine bodyPost_ret (v := noV (⟨#[]⟩ : ByteArray)) (by simp [results, Tryd.results41, go_sem, q.1, q.2.1, q.2.2, noV]) rfl ⟨by rw [HV.out], ?_⟩
              exact below_three HB.out (Nat.le_refl _) _ _ _
            · have g4 : (t == (s.size : Int) - 1) = false := by rw [beq_eq_false_iff_ne]; exact c2
              obtain ⟨o, rfl⟩ : ∃ o : Nat, t = (o : Int) := ⟨t.toNat, by omega⟩
              have HV : Hid (boxV [] s.data.toList = .tuple #[.agg #[.string (⟨#[]⟩ : ByteArray), .string (s.extract 0 o), .string (s.extract (o + 1) s.size)], .bool true]) := Lib.hid (by rw [boxV_yes HALL.out HT.out (by omega) (by omega), HNM.out])
              have o1 : (0 : Int) ≤ (o : Int) := by omega
              have o2 : (o : Int) ≤ (s.size : Int) := by omega
              have o3 : (0 : Int) ≤ (o : Int) + 1 := by omega
              have o4 : (o : Int) + 1 ≤ (s.size : Int) := by omega
              have hX1 : (W.setCell ⟨w.heap.size + 1, 1, none⟩ (.string (s.extract 0 o))).heap[w.heap.size + 1]? = _ := heap_setCell_same W _ 1 _ _ _ HX.out
              have hX2 : ((W.setCell ⟨w.heap.size + 1, 1, none⟩ (.string (s.extract 0 o))).setCell ⟨w.heap.size + 1, 2, none⟩ (.string (s.extract (o + 1) s.size))).heap[w.heap.size + 1]? = _ := heap_setCell_same _ _ 2 _ _ _ hX1
              simp only [List.setIfInBounds_toArray, List.set_cons_zero, List.set_cons_succ] at hX1 hX2
              have hR2 : ((W.setCell ⟨w.heap.size + 1, 1, none⟩ (.string (s.extract 0 o))).setCell ⟨w.heap.size + 1, 2, none⟩ (.string (s.extract (o + 1) s.size))).heap[w.heap.size]? = some (.cells #[.string ⟨#[]⟩, .string ⟨#[]⟩, .string ⟨#[]⟩] 29 (0, 0)) := (Below.heap_setCell _ _ _ _ (by simp)).trans ((Below.heap_setCell _ _ _ _ (by simp)).trans HR.out)
              have hB2 : Below w.heap.size w ((W.setCell ⟨w.heap.size + 1, 1, none⟩ (.string (s.extract 0 o))).setCell ⟨w.heap.size + 1, 2, none⟩ (.string (s.extract (o + 1) s.size))) := (HB.out.setCell (p := ⟨w.heap.size + 1, 1, none⟩) (by simp) _).setCell (p := ⟨w.heap.size + 1, 2, none⟩) (by simp) _
              have v1 := (three_free hX1).2.2
              have v2 := (three_cells hX1).2.2
              obtain ⟨v3, v4, v5⟩ := three_cells hX2
              obtain ⟨v6, v7, v8⟩ := three_free hR2
              obtain ⟨v9, va, vb⟩ := three_cells hR2
              have HR2 := Lib.hid hR2
              have HB2 := Lib.hid hB2
              clear hX1 hX2 hR2 hB2 hbd c1 c2 HALL HT
              go_wp2_with (go_at_call 63; refine (LB.out _).mono ?_; rintro e w' ⟨rfl, hw⟩; rw [hw]; clear hw w')
              have q := three_cells (set_three HR2.out (.string (⟨#[]⟩ : ByteArray)) (.string (s.extract 0 o)) (.string (s.extract (o + 1) s.size)))
              refine bodyPost_ret (v := .tuple #[.agg #[.string (⟨#[]⟩ : ByteArray), .string (s.extract 0 o), .string (s.extract (o + 1) s.size)], .bool true]) (by simp [results, Tryd.results41, go_sem, q.1, q.2.1, q.2.2]) rfl ⟨by rw [HV.out], ?_⟩
              exact below_three HB2.out (Nat.le_refl _) _ _ _
end Go.Proofs.YtplaomiegkaaiaaDoor
