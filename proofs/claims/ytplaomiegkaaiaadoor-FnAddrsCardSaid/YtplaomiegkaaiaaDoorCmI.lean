/-
  Addresses: the walks of impl's Commas and its two functions within.
-/
import Derived.Test.YtplaomiegkaaiaaDoorCmS
import Derived.Test.YtplaomiegkaaiaaDoorTrimA
import Derived.Test.YtplaomiegkaaiaaDoorBoxed
namespace Go.Proofs.YtplaomiegkaaiaaDoor
set_option linter.unusedVariables false
open Go.RowKit

/-- What a call to keep leaves: the list, longer by the part, if it is one. -/
def Keeps (B : Nat) (n₁ : Nat) (acc : List (List UInt8)) (w w' : World) : Prop :=
  ∃ v, Boxed w' B 31 v ∧ w'.ownsRow n₁ 9 1 v acc.length ((acc.map mkB).map Value.string) ∧ Below B w w' ∧ ∀ j, j < w.heap.size → j < n₁ → j ≠ B → w'.heap[j]? = w.heap[j]?

set_option maxRecDepth 100000 in
set_option maxHeartbeats 1000000 in
theorem keep_any (p : ByteArray) (B n₁ : Nat) (acc : List (List UInt8)) (v : Value) (w : World) (hp : p.size ≤ 1048576) (ha : acc.length ≤ 1048578) (hBn : B < n₁) (hn : n₁ ≤ w.heap.size)
    (hv : Boxed w B 31 v) (hrow : w.ownsRow n₁ 9 1 v acc.length ((acc.map mkB).map Value.string)) :
    Calls Tryd.prog 43 #[.string p, .pointer (some ⟨B, 0, none⟩)] w fun e w' => e = .returned (.tuple #[]) ∧ Keeps B n₁ (acc ++ keep1 p.data.toList) w w' := by
  obtain ⟨i0, hi, hz0, hz1, hz2⟩ := info_parts infoStr
  have TR := Lib.hid (fun w => implTrim_any p w (by omega))
  unfold keep1
  generalize Lib.trimS p.data.toList [32, 9] = P at TR ⊢
  rw [show (⟨P.toArray⟩ : ByteArray) = mkB P from rfl] at TR
  have HV := Lib.hid hv
  have HROW := Lib.hid hrow
  clear hv hrow
  cases P with
  | nil =>
    obtain ⟨P, hP0⟩ : ∃ P : List UInt8, P = [] := ⟨_, rfl⟩
    have hue : (mkB P).toList.isEmpty = true := by rw [Lib.toList_data, mkB_list, hP0]; rfl
    rw [if_pos rfl, List.append_nil]
    rw [← hP0] at TR
    clear hP0
    go_enter Tryd.func43, Tryd.ntmps43
    go_wp2_with fail
    refine (TR.out _).mono ?_
    rintro e w2 ⟨rfl, hB2⟩
    go_wp2_with fail
    go_end0
    have hBl := HV.out.lt
    exact ⟨rfl, v, (hB2.block _ hBl).trans HV.out, row_below HROW.out hB2, hB2.mono (by omega), fun j hj _ _ => hB2.block j hj⟩
  | cons y P' =>
    obtain ⟨P, hP0⟩ : ∃ P : List UInt8, P = y :: P' := ⟨_, rfl⟩
    have hue : (mkB P).toList.isEmpty = false := by rw [Lib.toList_data, mkB_list, hP0]; rfl
    rw [if_neg (by simp), ← hP0]
    rw [← hP0] at TR
    clear hP0
    go_enter Tryd.func43, Tryd.ntmps43
    go_wp2_with fail
    refine (TR.out _).mono ?_
    rintro e w2 ⟨rfl, hB2⟩
    have hv2 : Boxed w2 B 31 v := (hB2.block _ HV.out.lt).trans HV.out
    have hrow2 := row_below HROW.out hB2
    have hc := hv2.cell
    have HV2 := Lib.hid hv2
    have hs2 := hB2.size
    clear hv2
    go_wp2_with (at_builtin; refine wpList_append_own _ rfl _ _ 31 rfl n₁ 9 i0 (.string ⟨#[]⟩) 1 16 Tryd.underlying31 hi hz0 hz1 hz2 rfl (by decide) _ _ _ rfl (hrow2.alloc _) ⟨w2.heap.size, 0, none⟩ 1 1 [.string (mkB P)] rfl rfl (cell_one_new _ _ _) (by simp [Value.oneCell']) (by unfold maxLen; omega) (by omega) (by simp; omega) ?_; intro v' w1 hown' hgrow _; obtain ⟨g', cap', rfl⟩ := ownsRow_succ hown'; obtain ⟨hv1, hv3, hr3, hk3, hb3, hkeep⟩ := boxApp HV2.out (by decide) hrow2 (Nat.le_of_lt hBn) (Nat.le_of_lt HV2.out.lt) (Nat.le_refl _) hown' hgrow; have hc1 := hv1.cell; have hf1 := hv1.frozen)
    go_end0
    exact ⟨rfl, _, hv3, by simpa using hr3, (hB2.mono (by omega)).trans hb3, fun j hj h1 h2 => (hkeep j (by omega) h1 h2).trans (hB2.block j hj)⟩

theorem boxed_other {w : World} {Q E : Nat} {t : TypeId} {v : Value} (h : Boxed w Q t v) (hne : Q ≠ E) (u : Value) : Boxed (w.setCell ⟨E, 0, none⟩ u) Q t v := (Below.heap_setCell w _ u Q hne).trans h
/-- What a call to the separator leaves. -/
structure SepDid (Q E : Nat) (q e : Bool) (w w' : World) : Prop where
  quo : Boxed w' Q 4 (.bool q)
  esc : Boxed w' E 4 (.bool e)
  size : w'.heap.size = w.heap.size
  rest : ∀ j, j ≠ Q → j ≠ E → w'.heap[j]? = w.heap[j]?
  os : w'.os = w.os
  tape : w'.tape = w.tape
  output : w'.output = w.output
theorem sep_one {Q E : Nat} {q e : Bool} {w : World} (hQ : Boxed w Q 4 (.bool q)) (hE : Boxed w E 4 (.bool e)) (hne : Q ≠ E) (e' : Bool) : SepDid Q E q e' w (w.setCell ⟨E, 0, none⟩ (.bool e')) :=
  ⟨boxed_other hQ hne _, hE.set _, by simp [World.setCell], fun j _ h => Below.heap_setCell w _ _ j h, rfl, rfl, rfl⟩
theorem sep_both {Q E : Nat} {q e : Bool} {w : World} (hQ : Boxed w Q 4 (.bool q)) (hE : Boxed w E 4 (.bool e)) (hne : Q ≠ E) (q' e' : Bool) : SepDid Q E q' e' w ((w.setCell ⟨Q, 0, none⟩ (.bool q')).setCell ⟨E, 0, none⟩ (.bool e')) :=
  ⟨boxed_other (hQ.set _) hne _, (boxed_other hE hne.symm _).set _, by simp [World.setCell], fun j h1 h2 => (Below.heap_setCell _ _ _ j h2).trans (Below.heap_setCell w _ _ j h1), rfl, rfl, rfl⟩

set_option maxRecDepth 100000 in
set_option maxHeartbeats 2000000 in
theorem sep_any (b : UInt8) (q e : Bool) (Q E : Nat) (w : World) (hQ : Boxed w Q 4 (.bool q)) (hE : Boxed w E 4 (.bool e)) (hne : Q ≠ E) :
    Calls Tryd.prog 66 #[.int .u8 (b.toNat : Int), .pointer (some ⟨E, 0, none⟩), .pointer (some ⟨Q, 0, none⟩)] w fun r w' => r = .returned (.bool ((b == 44) && !(nextQ q e b))) ∧ SepDid Q E (nextQ q e b) (nextE e b) w w' := by
  have HQ := Lib.hid hQ
  have HE := Lib.hid hE
  have c1 := hQ.cell
  have c2 := hE.cell
  have f1 := hQ.frozen
  have f2 := hE.frozen
  have s1 : ∀ x, (w.setCell ⟨Q, 0, none⟩ (.bool x)).cell? ⟨E, 0, none⟩ = some (.bool e) := fun x => (boxed_other hE hne.symm _).cell
  have s2 : ∀ x, (w.setCell ⟨Q, 0, none⟩ (.bool x)).frozen? ⟨E, 0, none⟩ = false := fun x => (boxed_other hE hne.symm _).frozen
  have s3 : ∀ x, (w.setCell ⟨Q, 0, none⟩ (.bool x)).cell? ⟨Q, 0, none⟩ = some (.bool x) := fun x => (hQ.set _).cell
  have s4 : ∀ x y, ((w.setCell ⟨Q, 0, none⟩ (.bool x)).setCell ⟨E, 0, none⟩ (.bool y)).cell? ⟨Q, 0, none⟩ = some (.bool x) := fun x y => (boxed_other (hQ.set _) hne _).cell
  have s5 : ∀ y, (w.setCell ⟨E, 0, none⟩ (.bool y)).cell? ⟨Q, 0, none⟩ = some (.bool q) := fun y => (boxed_other hQ hne _).cell
  clear hQ hE
  by_cases h34 : b = 34
  · subst h34
    cases e with
    | false =>
      have HN := Lib.hid hne
      clear hne
      go_enter Tryd.func66, Tryd.ntmps66
      go_wp2_with fail
      go_ret
      exact ⟨rfl, sep_both HQ.out HE.out HN.out _ _⟩
    | true =>
      have HN := Lib.hid hne
      clear hne
      go_enter Tryd.func66, Tryd.ntmps66
      go_wp2_with fail
      go_ret
      exact ⟨rfl, sep_one HQ.out HE.out HN.out _⟩
  · have hnq : nextQ q e b = q := by unfold nextQ; rw [if_neg (fun h => h34 h.1)]
    rw [hnq]
    have d1 : ((b.toNat : Int) == 34) = false := ne_byte (b := 34) h34
    have HN := Lib.hid hne
    by_cases h92 : b = 92
    · subst h92
      have e1 : ((92 : UInt8) == 44) = false := rfl
      rw [show nextE e 92 = !e from by simp [nextE]]
      clear hne hnq h34 d1
      go_enter Tryd.func66, Tryd.ntmps66
      go_wp2_with fail
      go_ret
      exact ⟨rfl, sep_one HQ.out HE.out HN.out _⟩
    · have d2 : ((b.toNat : Int) == 92) = false := ne_byte (b := 92) h92
      rw [show nextE e b = false from by simp [nextE, h92]]
      by_cases h44 : b = 44
      · subst h44
        clear hne hnq h34 h92 d1 d2
        go_enter Tryd.func66, Tryd.ntmps66
        go_wp2_with fail
        go_ret
        exact ⟨rfl, sep_one HQ.out HE.out HN.out _⟩
      · have d3 : ((b.toNat : Int) == 44) = false := ne_byte (b := 44) h44
        rw [beq_eq_false_iff_ne.2 h44]
        clear hne hnq h34 h92 h44
        go_enter Tryd.func66, Tryd.ntmps66
        go_wp2_with fail
        go_ret
        exact ⟨rfl, sep_one HQ.out HE.out HN.out _⟩

/-- What separator makes: its two variables, and the function that has them. -/
theorem separator_any (w : World) :
    Calls Tryd.prog 44 #[] w fun r w' => r = .returned (.func (.func 66) #[] #[.pointer (some ⟨w.heap.size + 1, 0, none⟩), .pointer (some ⟨w.heap.size, 0, none⟩)]) ∧ Boxed w' w.heap.size 4 (.bool false) ∧ Boxed w' (w.heap.size + 1) 4 (.bool false) ∧ Below w.heap.size w w' ∧ w'.heap.size = w.heap.size + 2 := by
  go_enter Tryd.func44, Tryd.ntmps44
  go_wp2_with fail
  go_ret
  refine ⟨rfl, (Boxed.new w _ _).alloc _, ?_, ((Below.refl _ _).alloc (Nat.le_refl _) _).alloc (by simp) _, by simp⟩
  have h := Boxed.new (w.alloc (.cells #[.bool false] 4)) 4 (.bool false)
  rwa [World.size_alloc] at h

theorem SepDid.row {Q E : Nat} {q e : Bool} {w w' : World} (h : SepDid Q E q e w w') {n₁ k n : Nat} {T : TypeId} {v : Value} {xs : List Value} (hr : w.ownsRow n₁ T k v n xs) (h1 : Q < n₁) (h2 : E < n₁) : w'.ownsRow n₁ T k v n xs := by
  obtain ⟨a, b⟩ := hr
  refine ⟨a, b.imp id ?_⟩
  rintro ⟨g, cap, cur, rfl, hb, hg, r⟩
  exact ⟨g, cap, cur, rfl, hb, (h.rest g (by omega) (by omega)).trans hg, r⟩
theorem SepDid.below {Q E : Nat} {q e : Bool} {w w' : World} (h : SepDid Q E q e w w') {B : Nat} (h1 : B ≤ Q) (h2 : B ≤ E) : Below B w w' :=
  ⟨h.os, h.tape, h.output, by rw [h.size]; exact Nat.le_refl _, fun j hj => h.rest j (by omega) (by omega)⟩
/-- What the loop keeps. -/
structure ComW (w wr : World) (q e : Bool) (acc : List (List UInt8)) : Prop where
  box : ∃ v, Boxed wr w.heap.size 31 v ∧ wr.ownsRow (w.heap.size + 3) 9 1 v acc.length ((acc.map mkB).map Value.string)
  quo : Boxed wr (w.heap.size + 1) 4 (.bool q)
  esc : Boxed wr (w.heap.size + 1 + 1) 4 (.bool e)
  size : w.heap.size + 3 ≤ wr.heap.size
  below : Below w.heap.size w wr
theorem ComW.sep {w wr w' : World} {q e q' e' : Bool} {acc : List (List UInt8)} (h : ComW w wr q e acc) (h2 : SepDid (w.heap.size + 1) (w.heap.size + 1 + 1) q' e' wr w') : ComW w w' q' e' acc := by
  obtain ⟨v, hv, hr⟩ := h.box
  exact ⟨⟨v, (h2.rest _ (by omega) (by omega)).trans hv, h2.row hr (by omega) (by omega)⟩, h2.quo, h2.esc, by rw [h2.size]; exact h.size, h.below.trans (h2.below (by omega) (by omega))⟩
theorem ComW.keep {w wr w' : World} {q e : Bool} {acc acc' : List (List UInt8)} (h : ComW w wr q e acc) (h2 : Keeps w.heap.size (w.heap.size + 3) acc' wr w') : ComW w w' q e acc' := by
  obtain ⟨v, hv, hr, hb, hk⟩ := h2
  have hs := h.size
  exact ⟨⟨v, hv, hr⟩, (hk _ (by omega) (by omega) (by omega)).trans h.quo, (hk _ (by omega) (by omega) (by omega)).trans h.esc, Nat.le_trans hs hb.size, h.below.trans hb⟩

set_option maxRecDepth 100000 in
set_option maxHeartbeats 2000000 in
theorem implCommas_any (s : ByteArray) (w : World) (hs : s.size ≤ 1048576) :
    Calls Tryd.prog 17 #[.string s] w (GivesStrs ((comL s.data.toList).map mkB) w) := by
  obtain ⟨R, hR⟩ : ∃ R, comL s.data.toList = R := ⟨_, rfl⟩
  rw [hR]
  have HR : Hid ([] ++ comRest s.data.toList false false 0 0 = R) := Lib.hid (by rw [← hR, ← rest_zero]; rfl)
  have hlen : s.data.toList.length = s.size := by simp
  have HLEN := Lib.hid hlen
  clear hR hlen
  go_enter Tryd.func17, Tryd.ntmps17
  go_wp2_with fail
  refine (separator_any _).mono ?_
  rintro e w1 ⟨rfl, hq1, he1, hB1, hz1⟩
  rw [World.size_alloc] at hq1 he1 hB1 hz1 ⊢
  have hl1 : Boxed w1 w.heap.size 31 (.slice none 0 0) := (hB1.block _ (by omega)).trans (Boxed.new w _ _)
  have hB2 : Below w.heap.size w w1 := ((Below.refl _ w).alloc (Nat.le_refl _) _).trans (hB1.mono (by omega))
  have HQ1 := Lib.hid hq1
  have HE1 := Lib.hid he1
  have HL1 := Lib.hid hl1
  have HB2 := Lib.hid hB2
  have HZ1 := Lib.hid hz1
  clear hq1 he1 hB1 hz1 hl1 hB2
  go_wp2_with fail
  go_loopw [6, 12] (fun f i wr => ∃ (k j : Nat) (q e : Bool) (acc : List (List UInt8)), k ≤ s.size ∧ j ≤ k ∧ i = .int .i64 (k : Int) ∧ f = .int .i64 (j : Int) ∧ Hid (acc ++ comRest s.data.toList q e j k = R) ∧ acc.length ≤ k ∧ Hid (ComW w wr q e acc)) (fun _ i _ => s.size - (intOf i).toNat)
  case atStart => exact ⟨0, 0, false, false, [], by omega, by omega, rfl, rfl, HR, Nat.le_refl _, Lib.hid ⟨⟨_, HL1.out, World.ownsRow_nil _ _ _ _⟩, HQ1.out, HE1.out, by rw [HZ1.out]; omega, HB2.out⟩⟩
  case round =>
    obtain ⟨k, j, q, e, acc, hk, hj, rfl, rfl, HL, hacc, HW⟩ := hrel
    clear HR HQ1 HE1 HL1 HB2 HZ1
    have j1 : (0 : Int) ≤ (k : Int) := by omega
    have j0 : (0 : Int) ≤ (j : Int) := by omega
    have jk : (j : Int) ≤ (k : Int) := by omega
    by_cases hlt : k < s.size
    · have d1 : decide ((k : Int) < (s.size : Int)) = true := by simp; omega
      have j2 : (k : Int) < (s.size : Int) := by omega
      have j3 : (k : Int) ≤ (s.size : Int) := by omega
      have hb := byte_some s k hlt
      have SE := Lib.hid (fun wx hQ hE => sep_any s[k] q e (w.heap.size + 1) (w.heap.size + 1 + 1) wx hQ hE (by omega))
      by_cases hsep : s[k] = 44 ∧ q = false
      · obtain ⟨h44, rfl⟩ := hsep
        rw [h44] at hb
        have hst := rest_sep s.data.toList e j k hb
        have HN : Hid ((acc ++ keep1 ((s.data.toList.drop j).take (k - j))) ++ comRest s.data.toList false false (k + 1) (k + 1) = R) := Lib.hid (by rw [← HL.out, hst, List.append_assoc]; rfl)
        have KE := Lib.hid (fun wx v hn hv hr => keep_any (s.extract j k) w.heap.size (w.heap.size + 3) acc v wx (by rw [ByteArray.size_extract]; omega) (by omega) (by omega) hn hv hr)
        rw [Lib.extract_data] at KE
        have hkl : (keep1 ((s.data.toList.drop j).take (k - j))).length ≤ 1 := by unfold keep1; split <;> simp
        generalize keep1 ((s.data.toList.drop j).take (k - j)) = X at HN KE hkl
        have e1 : nextQ false e s[k] = false := by rw [h44]; unfold nextQ; rw [if_neg (by simp)]
        have e2 : nextE e s[k] = false := by rw [h44]; rfl
        have e3 : ((s[k] == 44) && !false) = true := by rw [h44]; rfl
        rw [e1, e2, e3] at SE
        clear hb h44 hst HL e1 e2 e3
        go_wp2_with (first | (go_at_call 66; refine (SE.out _ HW.out.quo HW.out.esc).mono ?_; rintro r w2 ⟨rfl, hsd⟩))
        have HW2 := Lib.hid (HW.out.sep hsd)
        obtain ⟨v, hv, hr⟩ := HW2.out.box
        refine (KE.out _ _ HW2.out.size hv hr).mono ?_
        rintro r w3 ⟨rfl, hke⟩
        have HW3 := Lib.hid (HW2.out.keep hke)
        clear hsd hv hr hke
        go_wp2_with fail
        go_roundw
        case rel => exact ⟨k + 1, k + 1, false, false, acc ++ X, by omega, by omega, by go_num, by go_num, HN, by simp; omega, HW3⟩
        case measure => simp [intOf]; omega
      · have hst := rest_next s.data.toList q e (nextQ q e s[k]) (nextE e s[k]) j k _ hj hb (by
          by_cases h44 : s[k] = 44
          · right
            have hq : q = true := by cases q with
              | true => rfl
              | false => exact absurd ⟨h44, rfl⟩ hsep
            rw [h44, hq]
            unfold nextQ
            rw [if_neg (by simp)]
          · exact .inl h44) rfl rfl
        have hf : ((s[k] == 44) && !(nextQ q e s[k])) = false := by
          by_cases h44 : s[k] = 44
          · have hq : q = true := by cases q with
              | true => rfl
              | false => exact absurd ⟨h44, rfl⟩ hsep
            rw [h44, hq]
            unfold nextQ
            rw [if_neg (by simp)]
            rfl
          · rw [beq_eq_false_iff_ne.2 h44]
            rfl
        rw [hf] at SE
        generalize nextQ q e s[k] = q' at SE hst
        generalize nextE e s[k] = e' at SE hst
        have HN : Hid (acc ++ comRest s.data.toList q' e' j (k + 1) = R) := Lib.hid (by rw [← HL.out, hst])
        clear hb hst HL hf hsep
        go_wp2_with (first | (go_at_call 66; refine (SE.out _ HW.out.quo HW.out.esc).mono ?_; rintro r w2 ⟨rfl, hsd⟩))
        have HW2 := Lib.hid (HW.out.sep hsd)
        clear hsd
        go_roundw
        case rel => exact ⟨k + 1, j, q', e', acc, by omega, by omega, by go_num, by go_num, HN, by omega, HW2⟩
        case measure => simp [intOf]; omega
    · have d1 : decide ((k : Int) < (s.size : Int)) = false := by simp; omega
      have j3 : (j : Int) ≤ (s.size : Int) := by omega
      have hst := rest_end s.data.toList q e j k (by have := HLEN.out; omega) q e (k + 1)
      rw [rest_out s.data.toList q e (k + 1) (k + 1) (by have := HLEN.out; omega), List.append_nil] at hst
      have KE := Lib.hid (fun wx v hn hv hr => keep_any (s.extract j s.size) w.heap.size (w.heap.size + 3) acc v wx (by rw [ByteArray.size_extract]; omega) (by omega) (by omega) hn hv hr)
      rw [Lib.extract_data, show s.size - j = k - j by omega] at KE
      have HN : Hid (acc ++ keep1 ((s.data.toList.drop j).take (k - j)) = R) := Lib.hid (by rw [← HL.out, hst])
      generalize keep1 ((s.data.toList.drop j).take (k - j)) = X at HN KE
      obtain ⟨v, hv, hr⟩ := HW.out.box
      clear HL hst
      go_wp2_with fail
      refine (KE.out _ _ HW.out.size hv hr).mono ?_
      rintro r w3 ⟨rfl, hke⟩
      have HW3 := Lib.hid (HW.out.keep hke)
      clear hke hv hr
      obtain ⟨v3, hv3, hr3⟩ := HW3.out.box
      have c3 := hv3.cell
      go_wp2_with fail
      go_ret
      exact ⟨v3, rfl, by rw [← HN.out]; simpa using rowLe hr3 (by omega), HW3.out.below⟩
end Go.Proofs.YtplaomiegkaaiaaDoor
