/-
  The law FnAddrText, for every code.
-/
import Derived.Test.YtplaomiegkaaiaaDoorAtI
import Derived.Test.YtplaomiegkaaiaaDoorDrawAt
import Derived.Test.YtplaomiegkaaiaaDoorUqS
import Derived.Test.YtplaomiegkaaiaaDoorBig
namespace Go.Proofs.YtplaomiegkaaiaaDoor
set_option linter.unusedVariables false
open Go.RowKit

theorem adSum_take (l : List Ad) (k : Nat) (h : k < l.length) : adSum (l.take (k + 1)) + 2 = adSum (l.take k) + (addrTs [l[k]]).length := by
  rw [List.take_add_one, List.getElem?_eq_getElem h, adSum_append]
  show adSum (l.take k) + ((addrTs [l[k]]).length - 2 + 0) + 2 = _
  rw [addrTs_one]
  omega
theorem adSum_small (l : List Ad) (h : adSizes l ≤ 67108864) : adSum l ≤ 2 * adSizes l + 100 * l.length := by
  rw [← adSum_flat]
  exact flat_len l h
theorem adSum_le (l : List Ad) (k : Nat) : adSum (l.take k) ≤ adSum l := by
  conv => rhs; rw [← List.take_append_drop k l, adSum_append]
  omega
/-- One of them. -/
theorem ads_one {w : World} {g n cap k : Nat} {l : List Ad} (h : AdsAt w (.slice (some ⟨g, 0, none⟩) n cap) l) (hk : k < l.length) (c : Nat) : AdsAt w (.slice (some ⟨g, k * 3, none⟩) 1 c) [l[k]] := by
  rcases h with ⟨h, _⟩ | ⟨g2, off, c2, h1, h2, h3⟩
  · rw [h] at hk; simp at hk
  · injection h1 with e1 e2 e3
    injection e1 with e1
    injection e1 with e4 e5 _
    subst e4 e5
    refine .inr ⟨g, k * 3, c, rfl, h2, fun j hj => ?_⟩
    have hj0 : j = 0 := by simpa using hj
    subst hj0
    have := h3 k hk
    simpa using this

set_option maxRecDepth 100000 in
set_option maxHeartbeats 2000000 in
theorem lawAddrText_walk (a0 : Option Addr) (len0 cap0 : Nat) (z0 : List Int) (w : World) (w0 : IsRow .u8 w a0 len0 cap0 z0) (ht : Tens w) :
    Calls Tryd.prog 5 #[.slice a0 len0 cap0] w fun e w' => e = .returned (.bool true) ∧ Below w.heap.size w w' := by
  have W0 := Lib.hid w0
  have HT := Lib.hid ht
  clear w0 ht
  by_cases hl : len0 ≤ 1048576
  · go_enter Tryd.func5, Tryd.ntmps5
    go_wp2_with fail
    refine (big_no _ _ _ _ hl).mono ?_
    rintro e w1 ⟨rfl, rfl⟩
    go_wp2_with fail
    refine (drawAddrText_any ⟨a0, len0, cap0, z0⟩ w1 w1 W0.out hl (Below.refl _ _)).mono ?_
    rintro e w2 ⟨l, v, rfl, hl1, hl2, hr2, hB2⟩
    have B2 := Lib.hid hB2
    have R2 := Lib.hid hr2
    have V2 := Lib.hid (ads_of_row hr2)
    clear hB2 hr2
    have IA := Lib.hid (fun w hv ht => implAddrText_any v l w hv (by omega) (by omega) ht)
    have SA := Lib.hid (fun w hv => specAddrText_any v l w hv (by omega) (by omega))
    obtain ⟨S, hS⟩ : ∃ S, mkB (addrTs l) = S := ⟨_, rfl⟩
    rw [hS] at IA SA
    have HS := Lib.hid hS
    have gs : (S.toList != S.toList) = false := by simp
    clear hS
    go_wp2_with fail
    refine (IA.out _ V2.out (HT.out.later B2.out)).mono ?_
    rintro e w3 ⟨rfl, hB3⟩
    have B3 := Lib.hid (B2.out.trans (hB3.mono B2.out.size))
    have R3 := Lib.hid (row_lat R2.out hB3)
    clear hB3
    go_wp2_with fail
    refine (SA.out _ (ads_of_row R3.out)).mono ?_
    rintro e w4 ⟨rfl, hB4⟩
    have B4 := Lib.hid (B3.out.trans (hB4.mono B3.out.size))
    have R4 := Lib.hid (row_lat R3.out hB4)
    clear hB4 V2
    by_cases h0 : l.length = 0
    · obtain rfl : l = [] := List.eq_nil_of_length_eq_zero h0
      have hn : S = ⟨#[78, 73, 76]⟩ := by rw [← HS.out]; rfl
      subst hn
      obtain ⟨pv, cv, rfl⟩ := row_slice R4.out
      clear h0
      go_wp2_with fail
      go_ret
      exact ⟨rfl, B4.out⟩
    · have hpos : 0 < l.length := Nat.pos_of_ne_zero h0
      obtain ⟨g, cap, rfl⟩ := row_slice1 R4.out hpos
      have hcap : l.length ≤ cap := by
        rcases R4.out.2 with ⟨h, _⟩ | ⟨g', cap', cur, h, _, _, hn, _⟩
        · cases h
        · injection h with _ _ e3
          omega
      have g0 : ((l.length : Int) == 0) = false := by rw [beq_eq_false_iff_ne]; omega
      have hsum := adSum_small l (by omega)
      go_wp2_with fail
      go_loopw [5, 6] (fun n i wr => ∃ (k : Nat) (N : Nat), k ≤ l.length ∧ i = .int .i64 (k : Int) ∧ n = .int .i64 (N : Int) ∧ Hid (N = 2 + adSum (l.take k)) ∧ Hid (Below w4.heap.size w4 wr)) (fun _ i _ => l.length - (intOf i).toNat)
      case atStart => exact ⟨0, 2, Nat.zero_le _, rfl, rfl, Lib.hid (by simp [adSum]), Lib.hid (Below.refl _ _)⟩
      case round =>
        obtain ⟨k, N, hk, rfl, rfl, HN, HB⟩ := hrel
        by_cases hlt : k < l.length
        · have g1 : decide ((k : Int) < (l.length : Int)) = true := by simp; omega
          have i1 : (0 : Int) ≤ (k : Int) := by omega
          have i2 : (k : Int) ≤ (k : Int) + 1 := by omega
          have i3 : (k : Int) + 1 ≤ (cap : Int) := by omega
          have i4 : ¬ cap = k := by omega
          have hst := adSum_take l k hlt
          have hle := adSum_le l (k + 1)
          have hle0 := adSum_le l k
          have hN := HN.out
          have hsm := adSizes_mem (List.getElem_mem hlt)
          have hone := addrTs_one l[k]
          have X1 := Lib.hid (ads_one ((ads_of_row R4.out).later HB.out (Nat.le_refl _)) hlt (cap - k))
          generalize l[k] = a at hst hsm X1 hone
          have IK := Lib.hid (fun w hv ht => implAddrText_any (.slice (some ⟨g, k * 3, none⟩) 1 (cap - k)) [a] w hv (by simp only [adSizes, List.map_cons, List.map_nil, List.foldr_cons, List.foldr_nil]; omega) (by simp) ht)
          have hts : (mkB (addrTs [a])).size = (addrTs [a]).length := mkB_size _
          generalize mkB (addrTs [a]) = T at IK hts
          rw [← hts] at hst hone
          have ht2 : 2 ≤ T.size := by omega
          have hNb : N ≤ 1000000 := by omega
          have hTb : T.size ≤ 1000000 := by omega
          have HN2 : Hid (N + T.size - 2 = 2 + adSum (l.take (k + 1))) := Lib.hid (by omega)
          clear hst hle hle0 hN hsm hone hts HN hsum
          go_wp2_with fail
          refine (IK.out _ X1.out (HT.out.later (B4.out.trans (HB.out.mono B4.out.size)))).mono ?_
          rintro e wa ⟨rfl, hBa⟩
          have BA := Lib.hid (HB.out.trans (hBa.mono HB.out.size))
          clear hBa
          go_wp2_with fail
          go_roundw
          case rel => exact ⟨k + 1, N + T.size - 2, by omega, by go_num, by congr 1; omega, HN2, BA⟩
          case measure => simp [intOf]; omega
        · obtain rfl : k = l.length := by omega
          have g1 : decide ((l.length : Int) < (l.length : Int)) = false := by simp
          have hN := HN.out
          rw [List.take_length] at hN
          have hlen := addrTs_len l (by intro h; rw [h] at hpos; simp at hpos)
          have hSl : S.size = (addrTs l).length := by rw [← HS.out, mkB_size]
          have hSd : S.data.toList = 40 :: l.flatMap addrT ++ [41] := by
            rw [← HS.out, mkB_list]
            unfold addrTs
            rw [if_neg (by intro h; rw [h] at hpos; simp at hpos)]
          have hS2 : S.size = (l.flatMap addrT).length + 2 := by
            have := congrArg List.length hSd
            simpa using this
          have hNS : N = S.size := by omega
          have hSb : S.size ≤ 1000000 := by omega
          subst hNS
          have i0' : 0 < S.size := by omega
          have i3 : S.size - 1 < S.size := by omega
          have i1 : (0 : Int) ≤ (S.size : Int) - 1 := by omega
          have i2 : (S.size : Int) - 1 < (S.size : Int) := by omega
          have i4 : 1 ≤ S.size := by omega
          have i5 : (0 : Int) < (S.size : Int) := by omega
          have b0 : S[0] = 40 := by rw [← byte_at S 0 i0', hSd]; rfl
          have b1 : S[S.size - 1] = 41 := by
            rw [← byte_at S (S.size - 1) i3, hSd, List.getD_eq_getElem?_getD, List.getElem?_append_right (by rw [List.length_cons]; omega)]
            simp [hS2]
          have t0 : ((S[0].toNat : Int) == 40) = true := by rw [b0]; rfl
          have t1 : ((S[S.size - 1].toNat : Int) == 41) = true := by rw [b1]; rfl
          have B5 := Lib.hid (B4.out.trans (HB.out.mono B4.out.size))
          clear hN hlen hSl hSd hS2 b0 b1 hsum HN
          go_wp2_with fail
          go_ret
          exact ⟨rfl, B5.out⟩
  · go_enter Tryd.func5, Tryd.ntmps5
    go_wp2_with (go_at_call 10; refine (big_yes _ _ _ _ (by omega)).mono ?_; rintro e w1 ⟨rfl, rfl⟩)
    go_ret
    exact ⟨rfl, Below.refl _ _⟩
end Go.Proofs.YtplaomiegkaaiaaDoor
