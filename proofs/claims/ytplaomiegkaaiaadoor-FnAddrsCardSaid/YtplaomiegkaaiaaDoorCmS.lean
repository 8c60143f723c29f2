/-
  Addresses: the walk of spec's Commas.
-/
import Derived.Test.YtplaomiegkaaiaaDoorUqS
import Derived.Test.YtplaomiegkaaiaaDoorStrs
namespace Go.Proofs.YtplaomiegkaaiaaDoor
set_option linter.unusedVariables false
open Go.RowKit

/-- Whether a number of backslashes is odd. -/
def oddB (m : Nat) : Bool := decide (m % 2 = 1)
/-- A part, where it is one. -/
def keep1 (x : List UInt8) : List (List UInt8) := if Lib.trimS x [32, 9] = [] then [] else [Lib.trimS x [32, 9]]
/-- What is told from index k on. -/
def comRest (l : List UInt8) (q e : Bool) (j k : Nat) : List (List UInt8) := if k ≤ l.length then keepT (comAt l q e j k) else []
theorem rest_zero (l : List UInt8) : comRest l false false 0 0 = comL l := by
  unfold comRest
  rw [if_pos (Nat.zero_le _), comAt_zero]
theorem rest_sep (l : List UInt8) (e : Bool) (j k : Nat) (h : l[k]? = some 44) : comRest l false e j k = keep1 ((l.drop j).take (k - j)) ++ comRest l false (oddB 0) (k + 1) (k + 1) := by
  have hlt := (List.getElem?_eq_some_iff.1 h).1
  rw [show oddB 0 = false from rfl]
  have e1 : nextQ false e 44 = false := by unfold nextQ; rw [if_neg (by simp)]
  have e2 : nextE e 44 = false := rfl
  unfold comRest
  rw [if_pos (by omega), if_pos (by omega), comAt_sep l false e j k 44 h ⟨rfl, e1⟩, keepT_cons, e1, e2]
  rfl
theorem rest_next (l : List UInt8) (q e q' e' : Bool) (j k : Nat) (b : UInt8) (hjk : j ≤ k) (h : l[k]? = some b) (hn : b ≠ 44 ∨ q' = true) (hq : nextQ q e b = q') (he : nextE e b = e') : comRest l q e j k = comRest l q' e' j (k + 1) := by
  have hlt := (List.getElem?_eq_some_iff.1 h).1
  subst hq
  subst he
  unfold comRest
  rw [if_pos (by omega), if_pos (by omega), comAt_next l q e j k b hjk h (fun hx => by
    rcases hn with h1 | h1
    · exact h1 hx.1
    · rw [hx.2] at h1; cases h1)]
theorem rest_end (l : List UInt8) (q e : Bool) (j k : Nat) (hk : k = l.length) (q' e' : Bool) (j' : Nat) : comRest l q e j k = keep1 ((l.drop j).take (k - j)) ++ comRest l q' e' j' (k + 1) := by
  subst hk
  unfold comRest
  rw [if_pos (Nat.le_refl _), if_neg (by omega), comAt_end, keepT_cons, List.take_of_length_le (by simp)]
  rfl
theorem rest_out (l : List UInt8) (q e : Bool) (j k : Nat) (hk : l.length < k) : comRest l q e j k = [] := by
  unfold comRest
  rw [if_neg (by omega)]
theorem odd_more (m : Nat) : nextE (oddB m) 92 = oddB (m + 1) := by
  unfold nextE oddB
  by_cases h : m % 2 = 1
  · rw [decide_eq_true h, decide_eq_false (by omega)]
    rfl
  · rw [decide_eq_false h, decide_eq_true (by omega)]
    rfl

set_option maxRecDepth 100000 in
set_option maxHeartbeats 4000000 in
theorem specCommas_any (s : ByteArray) (w : World) (hs : s.size ≤ 1048576) :
    Calls Tryd.prog 19 #[.string s] w (GivesStrs ((comL s.data.toList).map mkB) w) := by
  obtain ⟨i0, hi, hz0, hz1, hz2⟩ := info_parts infoStr
  obtain ⟨R, hR⟩ : ∃ R, comL s.data.toList = R := ⟨_, rfl⟩
  rw [hR]
  have HR : Hid ([] ++ comRest s.data.toList false (oddB 0) 0 0 = R) := Lib.hid (by rw [← hR, ← rest_zero]; rfl)
  have hlen : s.data.toList.length = s.size := by simp
  have HLEN := Lib.hid hlen
  clear hR hlen
  go_enter Tryd.func19, Tryd.ntmps19
  go_wp2
  go_loopw [3, 4, 5, 6, 7] (fun o u f m i wr => ∃ (k j c : Nat) (q : Bool) (acc : List (List UInt8)), k ≤ s.size + 1 ∧ j ≤ k ∧ c ≤ k ∧ i = .int .i64 (k : Int) ∧ f = .int .i64 (j : Int) ∧ m = .int .i64 (c : Int) ∧ u = .bool q ∧ Hid (acc ++ comRest s.data.toList q (oddB c) j k = R) ∧ acc.length ≤ k ∧ wr.ownsRow w.heap.size 9 1 o acc.length ((acc.map mkB).map Value.string) ∧ Below w.heap.size w wr) (fun _ _ _ _ i _ => s.size + 1 - (intOf i).toNat)
  case atStart => exact ⟨0, 0, 0, false, [], by omega, by omega, by omega, rfl, rfl, rfl, rfl, HR, Nat.le_refl _, World.ownsRow_lit w #[] 0 (Nat.le_refl _) (by decide) rfl, (Below.refl _ _).alloc (Nat.le_refl _) _⟩
  case round =>
    obtain ⟨k, j, c, q, acc, hk, hj, hc, rfl, rfl, rfl, rfl, HL, hacc, hown, hB⟩ := hrel
    have hsz := hB.size
    clear HR
    have j1 : (0 : Int) ≤ (k : Int) := by omega
    have j0 : (0 : Int) ≤ (j : Int) := by omega
    have jk : (j : Int) ≤ (k : Int) := by omega
    by_cases hlt : k < s.size
    · have d0 : decide ((k : Int) ≤ (s.size : Int)) = true := by simp; omega
      have d1 : decide ((k : Int) < (s.size : Int)) = true := by simp; omega
      have d5 : ((k : Int) == (s.size : Int)) = false := by rw [beq_eq_false_iff_ne]; omega
      have j2 : (k : Int) < (s.size : Int) := by omega
      have j3 : (k : Int) ≤ (s.size : Int) := by omega
      have hb := byte_some s k hlt
      by_cases h34 : s[k] = 34
      · have d2 : ((s[k].toNat : Int) == 34) = true := by rw [h34]; rfl
        have d3 : ((s[k].toNat : Int) == 92) = false := by rw [h34]; rfl
        have d4 : ((s[k].toNat : Int) == 44) = false := by rw [h34]; rfl
        rw [h34] at hb
        by_cases hodd : c % 2 = 1
        · have d6 : ((c : Int) % 2 == 0) = false := by rw [beq_eq_false_iff_ne]; omega
          have hst := rest_next s.data.toList q (oddB c) q (oddB 0) j k 34 hj hb (.inl (by decide)) (by unfold nextQ oddB; rw [if_neg (by simp [hodd])]) rfl
          have HN : Hid (acc ++ comRest s.data.toList q (oddB 0) j (k + 1) = R) := Lib.hid (by rw [← HL.out, hst])
          clear hb h34 hst HL hodd
          go_wp2_with fail
          go_roundw
          case rel => exact ⟨k + 1, j, 0, q, acc, by omega, by omega, by omega, by go_num, by go_num, by go_num, rfl, HN, by omega, hown, hB⟩
          case measure => simp [intOf]; omega
        · have d6 : ((c : Int) % 2 == 0) = true := by rw [beq_iff_eq]; omega
          have hst := rest_next s.data.toList q (oddB c) (!q) (oddB 0) j k 34 hj hb (.inl (by decide)) (by unfold nextQ oddB; rw [if_pos (by simp; omega)]) rfl
          have HN : Hid (acc ++ comRest s.data.toList (!q) (oddB 0) j (k + 1) = R) := Lib.hid (by rw [← HL.out, hst])
          clear hb h34 hst HL hodd
          go_wp2_with fail
          go_roundw
          case rel => exact ⟨k + 1, j, 0, !q, acc, by omega, by omega, by omega, by go_num, by go_num, by go_num, rfl, HN, by omega, hown, hB⟩
          case measure => simp [intOf]; omega
      · have d2 : ((s[k].toNat : Int) == 34) = false := ne_byte (b := 34) h34
        by_cases h92 : s[k] = 92
        · have d3 : ((s[k].toNat : Int) == 92) = true := by rw [h92]; rfl
          have d4 : ((s[k].toNat : Int) == 44) = false := by rw [h92]; rfl
          rw [h92] at hb
          have hst := rest_next s.data.toList q (oddB c) q (oddB (c + 1)) j k 92 hj hb (.inl (by decide)) (by unfold nextQ; rw [if_neg (by simp)]) (odd_more c)
          have HN : Hid (acc ++ comRest s.data.toList q (oddB (c + 1)) j (k + 1) = R) := Lib.hid (by rw [← HL.out, hst])
          clear hb h34 h92 hst HL
          go_wp2_with fail
          go_roundw
          case rel => exact ⟨k + 1, j, c + 1, q, acc, by omega, by omega, by omega, by go_num, by go_num, by go_num, rfl, HN, by omega, hown, hB⟩
          case measure => simp [intOf]; omega
        · have d3 : ((s[k].toNat : Int) == 92) = false := ne_byte (b := 92) h92
          by_cases h44 : s[k] = 44
          · have d4 : ((s[k].toNat : Int) == 44) = true := by rw [h44]; rfl
            rw [h44] at hb
            cases q with
            | true =>
              have hst := rest_next s.data.toList true (oddB c) true (oddB 0) j k 44 hj hb (.inr rfl) (by unfold nextQ; rw [if_neg (by simp)]) rfl
              have HN : Hid (acc ++ comRest s.data.toList true (oddB 0) j (k + 1) = R) := Lib.hid (by rw [← HL.out, hst])
              clear hb h34 h92 h44 hst HL
              go_wp2_with fail
              go_roundw
              case rel => exact ⟨k + 1, j, 0, true, acc, by omega, by omega, by omega, by go_num, by go_num, by go_num, rfl, HN, by omega, hown, hB⟩
              case measure => simp [intOf]; omega
            | false =>
              have hst := rest_sep s.data.toList (oddB c) j k hb
              clear hb h34 h92 h44
              obtain ⟨P, hP⟩ : ∃ P, Lib.trimS ((s.data.toList.drop j).take (k - j)) [32, 9] = P := ⟨_, rfl⟩
              have TR := Lib.hid (fun w => specTrim_any (s.extract j k) w (by rw [ByteArray.size_extract]; omega))
              rw [Lib.extract_data, hP, show (⟨P.toArray⟩ : ByteArray) = mkB P from rfl] at TR
              unfold keep1 at hst
              rw [hP] at hst
              clear hP
              cases P with
              | nil =>
                obtain ⟨P, hP0⟩ : ∃ P : List UInt8, P = [] := ⟨_, rfl⟩
                have hue : (mkB P).toList.isEmpty = true := by rw [Lib.toList_data, mkB_list, hP0]; rfl
                rw [if_pos rfl, List.nil_append] at hst
                have HN : Hid (acc ++ comRest s.data.toList false (oddB 0) (k + 1) (k + 1) = R) := Lib.hid (by rw [← HL.out, hst])
                rw [← hP0] at TR
                clear hst HL hP0
                go_wp2_with fail
                refine (TR.out _).mono ?_
                rintro e w2 ⟨rfl, hw⟩
                rw [hw]
                clear hw w2
                go_wp2_with fail
                go_roundw
                case rel => exact ⟨k + 1, k + 1, 0, false, acc, by omega, by omega, by omega, by go_num, by go_num, by go_num, rfl, HN, by omega, hown, hB⟩
                case measure => simp [intOf]; omega
              | cons y P' =>
                obtain ⟨P, hP0⟩ : ∃ P : List UInt8, P = y :: P' := ⟨_, rfl⟩
                have hue : (mkB P).toList.isEmpty = false := by rw [Lib.toList_data, mkB_list, hP0]; rfl
                rw [if_neg (by simp), ← hP0] at hst
                have HN : Hid ((acc ++ [P]) ++ comRest s.data.toList false (oddB 0) (k + 1) (k + 1) = R) := Lib.hid (by rw [← HL.out, hst, List.append_assoc])
                rw [← hP0] at TR
                clear hst HL hP0
                go_wp2_with fail
                refine (TR.out _).mono ?_
                rintro e w2 ⟨rfl, hw⟩
                rw [hw]
                clear hw w2
                go_wp2_with (first | (at_builtin; refine wpList_append_own _ rfl _ _ 31 rfl w.heap.size 9 i0 (.string ⟨#[]⟩) 1 16 Tryd.underlying31 hi hz0 hz1 hz2 rfl (by decide) _ _ _ rfl (hown.alloc _) ⟨wr.heap.size, 0, none⟩ 1 1 [.string (mkB P)] rfl rfl (cell_one_new _ _ _) (by simp [Value.oneCell']) (by unfold maxLen; omega) (by omega) (by simp; omega) ?_; intro v3 w3 hO3 hg3 _; have hB3 : Below w.heap.size w w3 := (hB.alloc hsz _).grown hg3 (by simp; omega) (fun k e => (hown.lt k e).1)))
                have hrow : w3.ownsRow w.heap.size 9 1 v3 (acc ++ [P]).length (((acc ++ [P]).map mkB).map Value.string) := by simpa using hO3
                clear hown hO3 hg3
                go_wp2_with fail
                go_roundw
                case rel => exact ⟨k + 1, k + 1, 0, false, acc ++ [P], by omega, by omega, by omega, by go_num, by go_num, by go_num, rfl, HN, by simp; omega, hrow, hB3⟩
                case measure => simp [intOf]; omega
          · have d4 : ((s[k].toNat : Int) == 44) = false := ne_byte (b := 44) h44
            have hst := rest_next s.data.toList q (oddB c) q (oddB 0) j k _ hj hb (.inl h44) (by unfold nextQ; rw [if_neg (by simp [h34])]) (by unfold nextE; rw [beq_eq_false_iff_ne.2 h92]; rfl)
            have HN : Hid (acc ++ comRest s.data.toList q (oddB 0) j (k + 1) = R) := Lib.hid (by rw [← HL.out, hst])
            clear hb h34 h92 h44 hst HL
            go_wp2_with fail
            go_roundw
            case rel => exact ⟨k + 1, j, 0, q, acc, by omega, by omega, by omega, by go_num, by go_num, by go_num, rfl, HN, by omega, hown, hB⟩
            case measure => simp [intOf]; omega
    · by_cases heq : k = s.size
      · have d0 : decide ((k : Int) ≤ (s.size : Int)) = true := by simp; omega
        have d1 : decide ((k : Int) < (s.size : Int)) = false := by simp; omega
        have d5 : ((k : Int) == (s.size : Int)) = true := by rw [beq_iff_eq]; omega
        have j3 : (k : Int) ≤ (s.size : Int) := by omega
        have hst := rest_end s.data.toList q (oddB c) j k (by rw [HLEN.out]; exact heq) q (oddB 0) (k + 1)
        have hks : s.size ≤ k := by omega
        have hks2 : k ≤ s.size := by omega
        clear heq hlt
        obtain ⟨P, hP⟩ : ∃ P, Lib.trimS ((s.data.toList.drop j).take (k - j)) [32, 9] = P := ⟨_, rfl⟩
        have TR := Lib.hid (fun w => specTrim_any (s.extract j k) w (by rw [ByteArray.size_extract]; omega))
        rw [Lib.extract_data, hP, show (⟨P.toArray⟩ : ByteArray) = mkB P from rfl] at TR
        unfold keep1 at hst
        rw [hP] at hst
        clear hP
        cases P with
        | nil =>
          obtain ⟨P, hP0⟩ : ∃ P : List UInt8, P = [] := ⟨_, rfl⟩
          have hue : (mkB P).toList.isEmpty = true := by rw [Lib.toList_data, mkB_list, hP0]; rfl
          rw [if_pos rfl, List.nil_append] at hst
          have HN : Hid (acc ++ comRest s.data.toList q (oddB 0) (k + 1) (k + 1) = R) := Lib.hid (by rw [← HL.out, hst])
          rw [← hP0] at TR
          clear hst HL hP0
          go_wp2_with fail
          refine (TR.out _).mono ?_
          rintro e w2 ⟨rfl, hw⟩
          rw [hw]
          clear hw w2
          go_wp2_with fail
          go_roundw
          case rel => exact ⟨k + 1, k + 1, 0, q, acc, by omega, by omega, by omega, by go_num, by go_num, by go_num, rfl, HN, by omega, hown, hB⟩
          case measure => simp [intOf]; omega
        | cons y P' =>
          obtain ⟨P, hP0⟩ : ∃ P : List UInt8, P = y :: P' := ⟨_, rfl⟩
          have hue : (mkB P).toList.isEmpty = false := by rw [Lib.toList_data, mkB_list, hP0]; rfl
          rw [if_neg (by simp), ← hP0] at hst
          have HN : Hid ((acc ++ [P]) ++ comRest s.data.toList q (oddB 0) (k + 1) (k + 1) = R) := Lib.hid (by rw [← HL.out, hst, List.append_assoc])
          rw [← hP0] at TR
          clear hst HL hP0
          go_wp2_with fail
          refine (TR.out _).mono ?_
          rintro e w2 ⟨rfl, hw⟩
          rw [hw]
          clear hw w2
          go_wp2_with (first | (at_builtin; refine wpList_append_own _ rfl _ _ 31 rfl w.heap.size 9 i0 (.string ⟨#[]⟩) 1 16 Tryd.underlying31 hi hz0 hz1 hz2 rfl (by decide) _ _ _ rfl (hown.alloc _) ⟨wr.heap.size, 0, none⟩ 1 1 [.string (mkB P)] rfl rfl (cell_one_new _ _ _) (by simp [Value.oneCell']) (by unfold maxLen; omega) (by omega) (by simp; omega) ?_; intro v3 w3 hO3 hg3 _; have hB3 : Below w.heap.size w w3 := (hB.alloc hsz _).grown hg3 (by simp; omega) (fun k e => (hown.lt k e).1)))
          have hrow : w3.ownsRow w.heap.size 9 1 v3 (acc ++ [P]).length (((acc ++ [P]).map mkB).map Value.string) := by simpa using hO3
          clear hown hO3 hg3
          go_wp2_with fail
          go_roundw
          case rel => exact ⟨k + 1, k + 1, 0, q, acc ++ [P], by omega, by omega, by omega, by go_num, by go_num, by go_num, rfl, HN, by simp; omega, hrow, hB3⟩
          case measure => simp [intOf]; omega
      · have d0 : decide ((k : Int) ≤ (s.size : Int)) = false := by simp; omega
        have HQ : Hid (acc = R) := Lib.hid (by
          have := HL.out
          rw [rest_out _ _ _ _ _ (by have := HLEN.out; omega), List.append_nil] at this
          exact this)
        clear HL
        go_wp2_with fail
        go_ret
        exact ⟨_, rfl, by rw [← HQ.out]; simpa using hown, hB⟩
end Go.Proofs.YtplaomiegkaaiaaDoor
