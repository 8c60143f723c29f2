/-
  The walk of spec.ReadDec, and the exact law on ReadDec.
-/
import Derived.Test.YtconopkmiicjeaaDoorDecC
import Derived.Test.YtconopkmiicjeaaDoorDigit
namespace Go.Proofs.YtconopkmiicjeaaDoor
set_option linter.unusedVariables false
open Go.RowKit

theorem getD_mem (l : List UInt8) (k : Nat) (h : k < l.length) : l.getD k 0 ∈ l := by
  rw [List.getD_eq_getElem?_getD, List.getElem?_eq_getElem h]
  exact List.getElem_mem _
theorem take_step (s : ByteArray) (k : Nat) (h : k < s.size) : s.data.toList.take (k + 1) = s.data.toList.take k ++ [s[k]] := by
  rw [List.take_succ_eq_append_getElem (by simpa using h)]; rfl

set_option maxRecDepth 100000 in
set_option maxHeartbeats 1000000 in
theorem specRead_any (s : ByteArray) (w : World) (hs : s.size ≤ 1048576) :
    Calls Tryd.prog 61 #[.string s] w (TellsDec s.data.toList w) := by
  have hlen : s.data.toList.length = s.size := by simp
  have HLEN := Lib.hid hlen
  clear hlen
  by_cases h0 : s.size = 0
  · have hnil : s.data.toList = [] := List.eq_nil_of_length_eq_zero (by rw [HLEN.out]; exact h0)
    have HN : Hid (¬ ∃ n, goodDec s.data.toList n) := Lib.hid (by
      rintro ⟨n, hn⟩
      have := (goodDec_facts hn).2.2.2
      rw [hnil] at this
      simp at this)
    have he1 : s.toList.isEmpty = true := by rw [Lib.toList_data, hnil]; rfl
    have HN0 := Lib.hid h0
    have hz : ¬ (0 : Int) < (s.size : Int) := by omega
    clear hnil h0
    go_enter Tryd.func61, Tryd.ntmps61
    go_wp2
    go_loop [3, 4] (fun n i => n = .int .i64 0 ∧ i = .int .i64 0) (fun _ _ => 0)
    case atStart => exact ⟨rfl, rfl⟩
    case round =>
      obtain ⟨rfl, rfl⟩ := hrel
      go_wp2
      go_ret
      exact ⟨.inr ⟨HN.out, rfl⟩, Below.refl _ _⟩
  · have hpos : (0 : Int) < (s.size : Int) := by omega
    have hne1 : s.toList.isEmpty = false := by
      rw [Lib.toList_data, List.isEmpty_eq_false_iff]
      intro e
      apply h0
      rw [← HLEN.out, e]; rfl
    by_cases h9 : s.size ≤ 9
    · have hnl : decide ((9 : Int) < (s.size : Int)) = false := by simp; omega
      go_enter Tryd.func61, Tryd.ntmps61
      go_wp2
      go_loop [3, 4] (fun n i => ∃ k v : Nat, k ≤ s.size ∧ i = .int .i64 k ∧ n = .int .i64 v ∧ v ≤ 999999999 ∧ Hid (v = decVal 0 (s.data.toList.take k)) ∧ Hid (∀ c ∈ s.data.toList.take k, isDig c)) (fun _ i => s.size - (intOf i).toNat)
      case atStart => exact ⟨0, 0, Nat.zero_le _, rfl, rfl, by decide, Lib.hid rfl, Lib.hid (by simp)⟩
      case round =>
        obtain ⟨k, v, hk, rfl, rfl, hv, HVAL, HDIG⟩ := hrel
        by_cases hlt : k < s.size
        · have hts := take_step s k hlt
          have hmem : s[k] ∈ s.data.toList := by
            have : s[k] = s.data.toList[k]'(by rw [HLEN.out]; exact hlt) := rfl
            rw [this]; exact List.getElem_mem _
          have hb : s[k].toNat < 256 := s[k].toNat_lt
          generalize hc : s[k] = c at hts hmem hb
          have HC := Lib.hid hc
          have HTS := Lib.hid hts
          have HMEM := Lib.hid hmem
          by_cases hd : 48 ≤ c.toNat ∧ c.toNat ≤ 57
          · obtain ⟨hd1, hd2⟩ := hd
            have hall : ∀ d ∈ s.data.toList.take (k + 1), isDig d := by
              rw [hts]
              intro d hd
              rcases List.mem_append.1 hd with hd | hd
              · exact HDIG.out d hd
              · obtain rfl : d = c := by simpa using hd
                exact ⟨hd1, hd2⟩
            have hval : decVal 0 (s.data.toList.take (k + 1)) = v * 10 + (c.toNat - 48) := by
              rw [hts, val_snoc, ← HVAL.out]; rfl
            have hsm := val_small hall (by simp; omega)
            rw [hval] at hsm
            have HALL := Lib.hid hall
            have HV2 := Lib.hid hval
            have hr1 : (48 : Int) ≤ (s[k].toNat : Int) := by rw [hc]; omega
            have hr2 : (s[k].toNat : Int) ≤ 57 := by rw [hc]; omega
            have hcn : (s[k].toNat : Int) = (c.toNat : Int) := by rw [hc]
            have HCN := Lib.hid hcn
            clear hts hmem hc hall hval hcn
            go_wp2_with (go_at_call 70; refine (digit_yes _ _ hr1 hr2).mono ?_; rintro e w' ⟨rfl, rfl⟩)
            go_round
            case rel => exact ⟨k + 1, v * 10 + (c.toNat - 48), by omega, by go_num, by rw [HCN.out]; congr 1; omega, hsm, Lib.hid HV2.out.symm, HALL⟩
            case measure => simp [intOf]; omega
          · have HN : Hid (¬ ∃ n, goodDec s.data.toList n) := Lib.hid (by
              rintro ⟨n, hn⟩
              exact hd ((goodDec_facts hn).1 c hmem))
            have hr1 : (s[k].toNat : Int) < 48 ∨ 57 < (s[k].toNat : Int) := by rw [hc]; omega
            have HR1 := Lib.hid hr1
            have hr3 : (s[k].toNat : Int) ≤ 255 := by rw [hc]; omega
            clear hts hmem hc hd hr1
            go_wp2_with (go_at_call 70; refine (digit_no _ _ (by omega) hr3 HR1.out).mono ?_; rintro e w' ⟨rfl, rfl⟩)
            go_ret
            exact ⟨.inr ⟨HN.out, rfl⟩, Below.refl _ _⟩
        · obtain rfl : k = s.size := by omega
          have hfull : s.data.toList.take s.size = s.data.toList := List.take_of_length_le (by rw [HLEN.out]; omega)
          rw [hfull] at HVAL HDIG
          by_cases hit : Lib.itoa v = s.data.toList
          · have HG : Hid (goodDec s.data.toList v) := Lib.hid ⟨hv, by unfold Lib.itoa at hit; rw [if_neg (by omega)] at hit; simpa using hit⟩
            have hst : (⟨(Lib.itoa v).toArray⟩ : ByteArray) = s := by rw [hit]
            have HST := Lib.hid hst
            clear hst hit hfull
            go_wp2_with (go_at_call 39; refine (decText_any v _ (by omega) (by omega)).mono ?_; rw [HST.out]; rintro e w' ⟨rfl, rfl⟩)
            go_ret
            exact ⟨.inl ⟨v, HG.out, rfl⟩, Below.refl _ _⟩
          · have HN : Hid (¬ ∃ n, goodDec s.data.toList n) := Lib.hid (by
              rintro ⟨n, hn⟩
              apply hit
              have h1 := (goodDec_facts hn).2.1
              rw [← HVAL.out] at h1
              subst h1
              unfold Lib.itoa
              rw [if_neg (by omega)]
              simpa using hn.2)
            have hne := itoa_ne rfl hit
            generalize hq : (⟨(Lib.itoa v).toArray⟩ : ByteArray) = q at hne
            have HQ := Lib.hid hq
            have hne2 : (q.toList != s.toList) = true := by rw [bne, hne]; rfl
            clear hq hit hfull
            go_wp2_with (go_at_call 39; refine (decText_any v _ (by omega) (by omega)).mono ?_; rw [HQ.out]; rintro e w' ⟨rfl, rfl⟩)
            go_ret
            exact ⟨.inr ⟨HN.out, rfl⟩, Below.refl _ _⟩
    · have HN : Hid (¬ ∃ n, goodDec s.data.toList n) := Lib.hid (by
        rintro ⟨n, hn⟩
        have := (goodDec_facts hn).2.2.1
        rw [HLEN.out] at this
        omega)
      have hl9 : (9 : Int) < (s.size : Int) := by omega
      have hl9' : decide ((9 : Int) < (s.size : Int)) = true := by simp; omega
      have hb : s[0]'(by omega) = s[0]'(by omega) := rfl
      clear hb h9
      have hz : 0 < s.size := by omega
      go_enter Tryd.func61, Tryd.ntmps61
      go_wp2
      go_loop [3, 4] (fun n i => n = .int .i64 0 ∧ i = .int .i64 0) (fun _ _ => 0)
      case atStart => exact ⟨rfl, rfl⟩
      case round =>
        obtain ⟨rfl, rfl⟩ := hrel
        have hb : s[0].toNat < 256 := s[0].toNat_lt
        by_cases hd : 48 ≤ s[0].toNat ∧ s[0].toNat ≤ 57
        · obtain ⟨hd1, hd2⟩ := hd
          go_wp2_with (go_at_call 70; refine (digit_yes _ _ (by omega) (by omega)).mono ?_; rintro e w' ⟨rfl, rfl⟩)
          go_ret
          exact ⟨.inr ⟨HN.out, rfl⟩, Below.refl _ _⟩
        · have HD : Hid ((s[0].toNat : Int) < 48 ∨ 57 < (s[0].toNat : Int)) := Lib.hid (by omega)
          clear hd
          go_wp2_with (go_at_call 70; refine (digit_no _ _ (by omega) (by omega) HD.out).mono ?_; rintro e w' ⟨rfl, rfl⟩)
          go_ret
          exact ⟨.inr ⟨HN.out, rfl⟩, Below.refl _ _⟩

theorem tells_same {l : List UInt8} {w w1 w2 w3 : World} {e1 e2 : Ending} (h1 : TellsDec l w e1 w1) (h2 : TellsDec l w2 e2 w3) : e1 = e2 := by
  rcases h1.1 with ⟨n, g1, rfl⟩ | ⟨g1, rfl⟩ <;> rcases h2.1 with ⟨m, g2, rfl⟩ | ⟨g2, rfl⟩
  · have a := (goodDec_facts g1).2.1
    have b := (goodDec_facts g2).2.1
    rw [← a, ← b]
  · exact absurd ⟨n, g1⟩ g2
  · exact absurd ⟨m, g2⟩ g1
  · rfl
theorem tells_form {l : List UInt8} {w w1 : World} {e1 : Ending} (h1 : TellsDec l w e1 w1) : ∃ v : Int, e1 = .returned (.int .i64 v) := by
  rcases h1.1 with ⟨n, _, rfl⟩ | ⟨_, rfl⟩
  · exact ⟨_, rfl⟩
  · exact ⟨_, rfl⟩
end Go.Proofs.YtconopkmiicjeaaDoor
