/-
  Addresses: the walks of impl's unescape, Unquote.
-/
import Derived.Test.YtplaomiegkaaiaaDoorUqS
import Derived.Test.YtplaomiegkaaiaaDoorTrimA
namespace Go.Proofs.YtplaomiegkaaiaaDoor
set_option linter.unusedVariables false
open Go.RowKit

theorem escA_on (l : List UInt8) (k : Nat) (b : UInt8) (h : l[k]? = some b) : unescA true (l.drop k) = b :: unescA false (l.drop (k + 1)) := by
  have a1 := (List.getElem?_eq_some_iff.1 h).1
  rw [List.getElem?_eq_getElem a1] at h
  rw [List.drop_eq_getElem_cons a1, Option.some.inj h]
  rfl
theorem escA_mark (l : List UInt8) (k : Nat) (h : l[k]? = some 92) (h2 : k + 1 < l.length) : unescA false (l.drop k) = unescA true (l.drop (k + 1)) := by
  have a1 := (List.getElem?_eq_some_iff.1 h).1
  rw [List.getElem?_eq_getElem a1] at h
  rw [List.drop_eq_getElem_cons a1, Option.some.inj h, List.drop_eq_getElem_cons h2]
  simp [unescA, unesc]
theorem escA_off (l : List UInt8) (k : Nat) (b : UInt8) (h : l[k]? = some b) (h2 : b ≠ 92 ∨ l.length ≤ k + 1) (e : Bool) (h3 : l.length ≤ k + 1 ∨ e = false) : unescA false (l.drop k) = b :: unescA e (l.drop (k + 1)) := by
  have h4 : unescA e (l.drop (k + 1)) = unescA false (l.drop (k + 1)) := by
    rcases h3 with h3 | h3
    · rw [List.drop_eq_nil_of_le h3]
      cases e <;> rfl
    · rw [h3]
  rw [h4]
  exact unesc_take l k b h h2

set_option maxRecDepth 100000 in
set_option maxHeartbeats 1000000 in
theorem unescape_any (s : ByteArray) (w : World) (hs : s.size ≤ 1048576) :
    Calls Tryd.prog 48 #[.string s] w fun e w' => e = .returned (.string (mkB (unesc s.data.toList))) ∧ Below w.heap.size w w' := by
  obtain ⟨i0, hi, hz0, hz1, hz2⟩ := info_parts infoByteJ
  obtain ⟨R, hR2⟩ : ∃ R, unesc s.data.toList = R := ⟨_, rfl⟩
  rw [hR2]
  have HR : Hid (unescA false (s.data.toList.drop 0) = R) := Lib.hid (by rw [List.drop_zero]; exact hR2)
  clear hR2
  have hlen : s.data.toList.length = s.size := by simp
  have HLEN := Lib.hid hlen
  clear hlen
  go_enter Tryd.func48, Tryd.ntmps48
  go_wp2
  go_loopw [3, 4, 8] (fun o c i wr => ∃ (k : Nat) (L : List UInt8) (e : Bool), k ≤ s.size ∧ i = .int .i64 (k : Int) ∧ c = .bool e ∧ Hid (L ++ unescA e (s.data.toList.drop k) = R) ∧ L.length ≤ k ∧ wr.ownsRow w.heap.size 5 1 o L.length (L.map bv) ∧ Below w.heap.size w wr) (fun _ _ i _ => s.size - (intOf i).toNat)
  case atStart => exact ⟨0, [], false, Nat.zero_le _, rfl, rfl, HR, Nat.le_refl _, World.ownsRow_nil _ _ _ _, Below.refl _ _⟩
  case round =>
    obtain ⟨k, L, e, hk, rfl, rfl, HL, hLl, hown, hB⟩ := hrel
    have hsz := hB.size
    clear HR
    by_cases hlt : k < s.size
    · have d1 : decide ((k : Int) < (s.size : Int)) = true := by simp; omega
      have j1 : (0 : Int) ≤ (k : Int) := by omega
      have j2 : (k : Int) < (s.size : Int) := by omega
      have hb := byte_some s k hlt
      have hll := HLEN.out
      cases e with
      | true =>
        have HN : Hid ((L ++ [s[k]]) ++ unescA false (s.data.toList.drop (k + 1)) = R) := Lib.hid (by rw [← HL.out, escA_on _ k _ hb, List.append_assoc]; rfl)
        clear hb HL hll
        by_cases h92 : s[k] = 92
        · have d2 : ((s[k].toNat : Int) == 92) = true := by rw [h92]; rfl
          clear h92
          go_wp2_with (first | (at_builtin; refine wpList_append_own _ rfl _ _ 22 rfl w.heap.size 5 i0 (.int .u8 0) 1 1 Tryd.underlying22 hi hz0 hz1 hz2 rfl (by decide) _ _ _ rfl (hown.alloc _) ⟨wr.heap.size, 0, none⟩ 1 1 [.int .u8 (s[k].toNat : Int)] rfl rfl (cell_one_new _ _ _) (by simp [Value.oneCell']) (by unfold maxLen; omega) (by omega) (by simp; omega) ?_; intro v3 w3 hO3 hg3 _; have hB3 : Below w.heap.size w w3 := (hB.alloc hsz _).grown hg3 (by simp; omega) (fun k e => (hown.lt k e).1)))
          have hrow : w3.ownsRow w.heap.size 5 1 v3 (L ++ [s[k]]).length ((L ++ [s[k]]).map bv) := by simpa [bv] using hO3
          clear hown hO3 hg3
          go_wp2_with fail
          go_roundw
          case rel => exact ⟨k + 1, L ++ [s[k]], false, by omega, by go_num, rfl, HN, by simp; omega, hrow, hB3⟩
          case measure => simp [intOf]; omega
        · have d2 : ((s[k].toNat : Int) == 92) = false := ne_byte (b := 92) h92
          clear h92
          go_wp2_with (first | (at_builtin; refine wpList_append_own _ rfl _ _ 22 rfl w.heap.size 5 i0 (.int .u8 0) 1 1 Tryd.underlying22 hi hz0 hz1 hz2 rfl (by decide) _ _ _ rfl (hown.alloc _) ⟨wr.heap.size, 0, none⟩ 1 1 [.int .u8 (s[k].toNat : Int)] rfl rfl (cell_one_new _ _ _) (by simp [Value.oneCell']) (by unfold maxLen; omega) (by omega) (by simp; omega) ?_; intro v3 w3 hO3 hg3 _; have hB3 : Below w.heap.size w w3 := (hB.alloc hsz _).grown hg3 (by simp; omega) (fun k e => (hown.lt k e).1)))
          have hrow : w3.ownsRow w.heap.size 5 1 v3 (L ++ [s[k]]).length ((L ++ [s[k]]).map bv) := by simpa [bv] using hO3
          clear hown hO3 hg3
          go_wp2_with fail
          go_roundw
          case rel => exact ⟨k + 1, L ++ [s[k]], false, by omega, by go_num, rfl, HN, by simp; omega, hrow, hB3⟩
          case measure => simp [intOf]; omega
      | false =>
        by_cases h92 : s[k] = 92
        · have d2 : ((s[k].toNat : Int) == 92) = true := by rw [h92]; rfl
          by_cases hl : k + 1 < s.size
          · have d3 : ((k : Int) == (s.size : Int) - 1) = false := by rw [beq_eq_false_iff_ne]; omega
            have HN : Hid (L ++ unescA true (s.data.toList.drop (k + 1)) = R) := Lib.hid (by rw [← HL.out, escA_mark _ k (by rw [hb, h92]) (by omega)])
            clear hb HL hll h92
            go_wp2_with fail
            go_roundw
            case rel => exact ⟨k + 1, L, true, by omega, by go_num, rfl, HN, by omega, hown, hB⟩
            case measure => simp [intOf]; omega
          · have d3 : ((k : Int) == (s.size : Int) - 1) = true := by rw [beq_iff_eq]; omega
            have HN : Hid ((L ++ [s[k]]) ++ unescA true (s.data.toList.drop (k + 1)) = R) := Lib.hid (by rw [← HL.out, escA_off _ k _ hb (.inr (by omega)) true (.inl (by omega)), List.append_assoc]; rfl)
            clear hb HL hll h92
            go_wp2_with (first | (at_builtin; refine wpList_append_own _ rfl _ _ 22 rfl w.heap.size 5 i0 (.int .u8 0) 1 1 Tryd.underlying22 hi hz0 hz1 hz2 rfl (by decide) _ _ _ rfl (hown.alloc _) ⟨wr.heap.size, 0, none⟩ 1 1 [.int .u8 (s[k].toNat : Int)] rfl rfl (cell_one_new _ _ _) (by simp [Value.oneCell']) (by unfold maxLen; omega) (by omega) (by simp; omega) ?_; intro v3 w3 hO3 hg3 _; have hB3 : Below w.heap.size w w3 := (hB.alloc hsz _).grown hg3 (by simp; omega) (fun k e => (hown.lt k e).1)))
            have hrow : w3.ownsRow w.heap.size 5 1 v3 (L ++ [s[k]]).length ((L ++ [s[k]]).map bv) := by simpa [bv] using hO3
            clear hown hO3 hg3
            go_wp2_with fail
            go_roundw
            case rel => exact ⟨k + 1, L ++ [s[k]], true, by omega, by go_num, rfl, HN, by simp; omega, hrow, hB3⟩
            case measure => simp [intOf]; omega
        · have d2 : ((s[k].toNat : Int) == 92) = false := ne_byte (b := 92) h92
          have HN : Hid ((L ++ [s[k]]) ++ unescA false (s.data.toList.drop (k + 1)) = R) := Lib.hid (by rw [← HL.out, escA_off _ k _ hb (.inl h92) false (.inr rfl), List.append_assoc]; rfl)
          clear hb HL hll h92
          go_wp2_with (first | (at_builtin; refine wpList_append_own _ rfl _ _ 22 rfl w.heap.size 5 i0 (.int .u8 0) 1 1 Tryd.underlying22 hi hz0 hz1 hz2 rfl (by decide) _ _ _ rfl (hown.alloc _) ⟨wr.heap.size, 0, none⟩ 1 1 [.int .u8 (s[k].toNat : Int)] rfl rfl (cell_one_new _ _ _) (by simp [Value.oneCell']) (by unfold maxLen; omega) (by omega) (by simp; omega) ?_; intro v3 w3 hO3 hg3 _; have hB3 : Below w.heap.size w w3 := (hB.alloc hsz _).grown hg3 (by simp; omega) (fun k e => (hown.lt k e).1)))
          have hrow : w3.ownsRow w.heap.size 5 1 v3 (L ++ [s[k]]).length ((L ++ [s[k]]).map bv) := by simpa [bv] using hO3
          clear hown hO3 hg3
          go_wp2_with fail
          go_roundw
          case rel => exact ⟨k + 1, L ++ [s[k]], false, by omega, by go_num, rfl, HN, by simp; omega, hrow, hB3⟩
          case measure => simp [intOf]; omega
    · have d1 : decide ((k : Int) < (s.size : Int)) = false := by simp; omega
      have HQ : Hid (L = R) := Lib.hid (by
        have := HL.out
        rw [List.drop_eq_nil_of_le (by have := HLEN.out; omega)] at this
        cases e <;> simpa [unescA, unesc] using this)
      have hback := rowJ_back (P := Tryd.prog) hown 22 9 5 Tryd.underlying22 Tryd.underlying5 Tryd.underlying9
      go_wp2_with fail
      go_ret
      exact ⟨by rw [← HQ.out]; rfl, hB⟩

theorem mid_extract (t : ByteArray) : (t.extract 1 (t.size - 1)).data.toList = midL t := by
  rw [Lib.extract_data]
  unfold midL
  rw [show t.size - 1 - 1 = t.size - 2 by omega]
set_option maxRecDepth 100000 in
set_option maxHeartbeats 1000000 in
theorem implUnquote_any (s : ByteArray) (w : World) (hs : s.size ≤ 1048576) :
    Calls Tryd.prog 22 #[.string s] w fun e w' => e = .returned (.string (mkB (unqL s.data.toList))) ∧ Below w.heap.size w w' := by
  have TR := Lib.hid (fun w => implTrim_any s w (by omega))
  unfold unqL
  have htl := trimLen s.data.toList [32, 9]
  generalize Lib.trimS s.data.toList [32, 9] = T at TR htl ⊢
  obtain ⟨t, rfl⟩ : ∃ t : ByteArray, T = t.data.toList := ⟨mkB T, rfl⟩
  rw [show (⟨t.data.toList.toArray⟩ : ByteArray) = t from rfl] at TR
  have hts : t.size ≤ 1048576 := by simp at htl; omega
  clear htl
  by_cases h2 : t.size < 2
  · have g1 : decide ((t.size : Int) < 2) = true := by simp; omega
    unfold unqT
    rw [quoted_small t h2, if_neg (by simp), show mkB t.data.toList = t from rfl]
    clear h2
    go_enter Tryd.func22, Tryd.ntmps22
    go_wp2_with fail
    refine (TR.out _).mono ?_
    rintro e w1 ⟨rfl, hB1⟩
    go_wp2_with fail
    go_ret
    exact ⟨rfl, hB1⟩
  · have g1 : decide ((t.size : Int) < 2) = false := by simp; omega
    have i0' : 0 < t.size := by omega
    have i1 : (0 : Int) ≤ (t.size : Int) - 1 := by omega
    have i2 : (t.size : Int) - 1 < (t.size : Int) := by omega
    have i3 : t.size - 1 < t.size := by omega
    have i4 : (1 : Int) ≤ (t.size : Int) - 1 := by omega
    have i5 : (t.size : Int) - 1 ≤ (t.size : Int) := by omega
    have hq := quoted_is t (by omega)
    by_cases h0 : t[0] = 34
    · have g2 : ((t[0].toNat : Int) != 34) = false := eq_form (c := 34) h0
      by_cases hL : t[t.size - 1] = 34
      · have g3 : ((t[t.size - 1].toNat : Int) != 34) = false := eq_form (c := 34) hL
        rw [h0, hL] at hq
        have hR : unqT t.data.toList = unesc (midL t) := by
          unfold unqT midL
          rw [hq]
          simp
        have UE := Lib.hid (fun w => unescape_any (t.extract 1 (t.size - 1)) w (by rw [ByteArray.size_extract]; omega))
        rw [mid_extract t] at UE
        rw [hR]
        have H2 : Hid (2 ≤ t.size) := Lib.hid (by omega)
        clear hR hq h0 hL h2
        go_enter Tryd.func22, Tryd.ntmps22
        go_wp2_with fail
        refine (TR.out _).mono ?_
        rintro e w1 ⟨rfl, hB1⟩
        go_wp2_with fail
        refine (UE.out _).mono ?_
        rintro e w2 ⟨rfl, hB2⟩
        go_wp2_with fail
        go_ret
        exact ⟨rfl, hB1.trans (hB2.mono hB1.size)⟩
      · have g3 : ((t[t.size - 1].toNat : Int) != 34) = true := ne_form (c := 34) hL
        unfold unqT
        rw [hq, h0, beq_eq_false_iff_ne.2 hL, if_neg (by simp), show mkB t.data.toList = t from rfl]
        clear hq h0 hL h2
        go_enter Tryd.func22, Tryd.ntmps22
        go_wp2_with fail
        refine (TR.out _).mono ?_
        rintro e w1 ⟨rfl, hB1⟩
        go_wp2_with fail
        go_ret
        exact ⟨rfl, hB1⟩
    · have g2 : ((t[0].toNat : Int) != 34) = true := ne_form (c := 34) h0
      unfold unqT
      rw [hq, beq_eq_false_iff_ne.2 h0, if_neg (by simp), show mkB t.data.toList = t from rfl]
      clear hq h0 h2
      go_enter Tryd.func22, Tryd.ntmps22
      go_wp2_with fail
      refine (TR.out _).mono ?_
      rintro e w1 ⟨rfl, hB1⟩
      go_wp2_with fail
      go_ret
      exact ⟨rfl, hB1⟩
end Go.Proofs.YtplaomiegkaaiaaDoor
