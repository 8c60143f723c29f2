/-
  Names: the walk of spec.PutName.
-/
import Derived.Test.YtdgdflbhjbgmdaaDoorPnS
import Derived.Test.YtdgdflbhjbgmdaaDoorSgA
import Derived.Deep.RegionHeld3
namespace Go.Proofs.YtdgdflbhjbgmdaaDoor
set_option linter.unusedVariables false
open Go.RowKit

open Classical in
/-- How a name is written; none where it isn't one. -/
noncomputable def nameOf (l : List UInt8) : Option (List UInt8) := if h : ∃ cs, AllScalar cs ∧ l = bytesOf cs then some (putNm (Classical.choose h) []) else none
theorem nameOf_bytes (cs : List Nat) (h : AllScalar cs) : nameOf (bytesOf cs) = some (putNm cs []) := by
  have hex : ∃ ds, AllScalar ds ∧ bytesOf cs = bytesOf ds := ⟨cs, h, rfl⟩
  unfold nameOf
  rw [dif_pos hex]
  obtain ⟨h1, h2⟩ := Classical.choose_spec hex
  rw [← bytesOf_inj _ _ h h1 h2]
theorem nameOf_none (l : List UInt8) (h : Lib.validD l = false) : nameOf l = none := by
  unfold nameOf
  rw [dif_neg]
  intro hc
  rw [(valid_iff l).2 hc] at h
  cases h
/-- What PutName hands back. -/
def PutsName (l : List UInt8) (w : World) (e : Ending) (w' : World) : Prop :=
  ((∃ o : ByteArray, nameOf l = some o.data.toList ∧ Lib.validD l = true ∧ e = .returned (.tuple #[.string o, .bool true])) ∨
    (nameOf l = none ∧ Lib.validD l = false ∧ e = .returned (.tuple #[.string ⟨#[]⟩, .bool false]))) ∧ Below w.heap.size w w'
theorem puts_same {l : List UInt8} {w1 w1' w2 w2' : World} {e1 e2 : Ending} (h1 : PutsName l w1 e1 w1') (h2 : PutsName l w2 e2 w2') : e1 = e2 := by
  rcases h1.1 with ⟨o1, k1, _, rfl⟩ | ⟨k1, _, rfl⟩ <;> rcases h2.1 with ⟨o2, k2, _, rfl⟩ | ⟨k2, _, rfl⟩
  · rw [k1] at k2
    have e : o1 = o2 := ByteArray.ext (Array.ext' (Option.some.inj k2))
    rw [e]
  · rw [k1] at k2; cases k2
  · rw [k1] at k2; cases k2
  · rfl
theorem next_head (l : List UInt8) (k r : Nat) (rs : List Nat) (hr : Scalar r) (h : l.drop k = bytesOf (r :: rs)) : k + (putL r).length ≤ l.length ∧ nextL l k = (r, (putL r).length) ∧ l.drop (k + (putL r).length) = bytesOf rs ∧ (l.drop k).take (putL r).length = putL r ∧ 1 ≤ (putL r).length := by
  have hne := put_ne r hr
  have hpos : 1 ≤ (putL r).length := List.length_pos_iff.2 hne
  have hlen := congrArg List.length h
  rw [bytesOf_cons, List.length_append, List.length_drop] at hlen
  have hk : k < l.length := by omega
  refine ⟨by omega, ?_, ?_, ?_, hpos⟩
  · rw [next_dec l k hk, h, bytesOf_cons, dec_put r _ hr]
    unfold told
    rw [if_neg (put_good r hr)]
  · rw [← List.drop_drop, h, bytesOf_cons, List.drop_left' rfl]
  · rw [h, bytesOf_cons, List.take_left' rfl]

set_option maxRecDepth 100000 in
set_option maxHeartbeats 2000000 in
theorem specPutName_any (s : ByteArray) (w : World) (hs : s.size ≤ 4194304) :
    Calls Tryd.prog 13 #[.string s] w (PutsName s.data.toList w) := by
  have SG := Lib.hid (fun w => specSignsOk_any s w (by omega))
  have NX := Lib.hid (fun i w hi => next_any s i w (by omega) hi)
  have FL := Lib.hid (fun h w hh => flush_any h w hh)
  have HV := Lib.hid (fun r w hr => halves_any r w hr)
  cases hv : Lib.validD s.data.toList with
  | false =>
    have HNO := Lib.hid (nameOf_none _ hv)
    rw [hv] at SG
    have HVD := Lib.hid hv
    clear hv
    go_enter Tryd.func13, Tryd.ntmps13
    go_wp2_with fail
    refine (SG.out _).mono ?_
    rintro e w1 ⟨rfl, hB1⟩
    go_wp2_with fail
    go_ret2
    exact ⟨.inr ⟨HNO.out, HVD.out, rfl⟩, hB1⟩
  | true =>
    obtain ⟨cs, hcs, hl⟩ := (valid_iff _).1 hv
    rw [hv] at SG
    have HVD := Lib.hid hv
    obtain ⟨T, hT⟩ : ∃ T, T = putNm cs [] := ⟨_, rfl⟩
    have HT : Hid (nameOf s.data.toList = some T) := Lib.hid (by rw [hl, nameOf_bytes cs hcs, hT])
    have HL := Lib.hid hl
    have HTT := Lib.hid hT
    clear hv hl hT
    go_enter Tryd.func13, Tryd.ntmps13
    go_wp2_with fail
    refine (SG.out _).mono ?_
    rintro e w1 ⟨rfl, hB1⟩
    go_wp2_with fail
    go_loopw [4, 5, 6] (fun o h i wr => ∃ (k : Nat) (todo : List Nat) (O H : ByteArray), AllScalar todo ∧ k ≤ s.size ∧ i = .int .i64 (k : Int) ∧ o = .string O ∧ h = .string H ∧ Hid (s.data.toList.drop k = bytesOf todo) ∧ Hid (O.data.toList ++ putNm todo H.data.toList = T) ∧ O.size + 2 * H.size ≤ 12 * k ∧ Below w.heap.size w wr) (fun _ _ i _ => s.size - (intOf i).toNat)
    case atStart => exact ⟨0, cs, ⟨#[]⟩, ⟨#[]⟩, hcs, by omega, rfl, rfl, rfl, Lib.hid (by rw [List.drop_zero]; exact HL.out), Lib.hid (by rw [HTT.out]; rfl), by decide, hB1⟩
    case round =>
      obtain ⟨k, todo, O, H, htodo, hk, rfl, rfl, rfl, HD, HP, hsize, hB⟩ := hrel
      have hlen : s.data.toList.length = s.size := by simp
      by_cases hlt : k < s.size
      · have hF := FL.out H
        have hFl := (flushL_len H.data.toList).1
        have hHl : H.data.toList.length = H.size := by simp
        cases todo with
        | nil =>
          exfalso
          have := congrArg List.length HD.out
          rw [List.length_drop] at this
          simp [bytesOf] at this
          omega
        | cons r rs =>
          have hr := htodo r (List.mem_cons_self ..)
          have hrs : AllScalar rs := fun x hx => htodo x (List.mem_cons_of_mem _ hx)
          obtain ⟨n1, n2, n3, n4, n5⟩ := next_head s.data.toList k r rs hr HD.out
          have hN := fun w => NX.out k w hlt
          unfold NextAt at hN
          rw [n2] at hN
          have hr2 : r ≤ 1114111 := hr.1
          have hHV := fun w => HV.out r w hr2
          have hput : r < 128 → putL r = [UInt8.ofNat r] := put_one r
          have hp4 := HP.out
          have HN4 := Lib.hid n4
          generalize hn : (putL r).length = n at n1 n3 n5 hN HN4
          have HNN := Lib.hid hn
          have HN := Lib.hid hN
          have HD3 := Lib.hid n3
          clear hN n2 n3 n4 hn htodo
          rw [hlen] at n1
          rw [putNm] at hp4
          by_cases hpl : 32 ≤ r ∧ r ≤ 126
          · rw [if_pos hpl] at hp4
            obtain ⟨p1, p2⟩ := hpl
            have hn1 : n = 1 := by rw [← HNN.out, hput (by omega)]; rfl
            have hsg : (s.extract k (k + 1)).data.toList = [UInt8.ofNat r] := by
              rw [Lib.extract_data, show k + 1 - k = 1 by omega, ← hput (by omega)]
              have := HN4.out
              rw [hn1] at this
              exact this
            have hvl : (⟨(flushL H.data.toList).toArray⟩ : ByteArray).size ≤ 2 * H.size + 3 := by show (flushL H.data.toList).toArray.size ≤ _; rw [List.size_toArray]; omega
            have hvl0 : (⟨(flushL H.data.toList).toArray⟩ : ByteArray).data.toList = flushL H.data.toList := rfl
            generalize hV : (⟨(flushL H.data.toList).toArray⟩ : ByteArray) = V at hF hvl hvl0
            rw [← hvl0] at hp4
            have hHs : H.size ≤ 67108864 := by omega
            have HF := Lib.hid (fun w => hF w hHs)
            have HSG := Lib.hid hsg
            have HRS := Lib.hid hrs
            have HP4 := Lib.hid hp4
            clear hF hV hvl0 hsg hp4 hput hHl hFl hHV
            have q1 : IntKind.i64.wrap ((k : Int) + 1) = (k : Int) + 1 := by rw [IntKind.wrap_i64]; omega
            have q2 : (0 : Int) ≤ (k : Int) := by omega
            have q3 : (0 : Int) ≤ (k : Int) + 1 := by omega
            have q4 : (k : Int) ≤ (k : Int) + 1 := by omega
            have q5 : (k : Int) + 1 ≤ (s.size : Int) := by omega
            have q6 : ¬ 9223372036854775807 < O.size + V.size := by omega
            have q7 : ¬ 9223372036854775807 < O.size + V.size + (min (k + 1) s.size - k) := by omega
            by_cases h38 : r = 38
            · subst h38
              clear hr hrs hr2
              have q8 : ¬ 9223372036854775807 < O.size + V.size + 1 + 1 := by omega
              go_wp2_with (first | (go_at_call 26; refine (HN.out _).mono ?_; rintro e w2 ⟨rfl, hB2⟩) | (go_at_call 27; refine (in_yes _ _ _ _ (by omega) (by omega)).mono ?_; rintro e w3 ⟨rfl, rfl⟩))
              go_region_held3 (fun _ => True) (first | go_keep | exact trivial) (first | (go_at_call 28; refine (HF.out _).mono ?_; rintro e w4 ⟨rfl, hB4⟩))
              go_wp2_with fail
              exact ⟨⟨k + 1, rs, O ++ V ++ s.extract k (k + 1) ++ ⟨#[45]⟩, ⟨#[]⟩, HRS.out, by omega, by go_num, rfl, rfl, Lib.hid (by have := HD3.out; rw [hn1] at this; exact this), Lib.hid (by
                rw [← HP4.out]
                simp only [ByteArray.data_append, Array.toList_append, HSG.out]
                simp [plainL]), by
                have z1 : (⟨#[45]⟩ : ByteArray).size = 1 := rfl
                have z0 : (⟨#[]⟩ : ByteArray).size = 0 := rfl
                simp only [ByteArray.size_append, ByteArray.size_extract, z1, z0]
                omega, hB.trans ((hB2.drew.trans (hB4.mono hB2.size)).mono hB.size)⟩, by simp [intOf]; omega⟩
            · have t38 : ((r : Int) == 38) = false := by rw [beq_eq_false_iff_ne]; omega
              have H38 := Lib.hid h38
              clear h38
              go_wp2_with (first | (go_at_call 26; refine (HN.out _).mono ?_; rintro e w2 ⟨rfl, hB2⟩) | (go_at_call 27; refine (in_yes _ _ _ _ (by omega) (by omega)).mono ?_; rintro e w3 ⟨rfl, rfl⟩))
              go_region_held3 (fun _ => True) (first | go_keep | exact trivial) (first | (go_at_call 28; refine (HF.out _).mono ?_; rintro e w4 ⟨rfl, hB4⟩))
              go_wp2_with fail
              exact ⟨⟨k + 1, rs, O ++ V ++ s.extract k (k + 1), ⟨#[]⟩, HRS.out, by omega, by go_num, rfl, rfl, Lib.hid (by have := HD3.out; rw [hn1] at this; exact this), Lib.hid (by
                rw [← HP4.out]
                simp only [ByteArray.data_append, Array.toList_append, HSG.out]
                simp [plainL, H38.out]), by
                have z0 : (⟨#[]⟩ : ByteArray).size = 0 := rfl
                simp only [ByteArray.size_append, ByteArray.size_extract, z0]
                omega, hB.trans ((hB2.drew.trans (hB4.mono hB2.size)).mono hB.size)⟩, by simp [intOf]; omega⟩
          · rw [if_neg hpl] at hp4
            have hno : (r : Int) < 32 ∨ 126 < (r : Int) := by omega
            have HNOI := Lib.hid hno
            have hvl : (⟨(halvesL r).toArray⟩ : ByteArray).size ≤ 4 := by show (halvesL r).toArray.size ≤ _; rw [List.size_toArray]; exact (halvesL_len r).2
            have hvl0 : (⟨(halvesL r).toArray⟩ : ByteArray).data.toList = halvesL r := rfl
            generalize hV : (⟨(halvesL r).toArray⟩ : ByteArray) = V at hHV hvl hvl0
            rw [← hvl0] at hp4
            have HF := Lib.hid hHV
            have HRS := Lib.hid hrs
            have HP4 := Lib.hid hp4
            clear hF hV hvl0 hp4 hput hHl hFl hHV hno hpl
            go_wp2_with (first | (go_at_call 26; refine (HN.out _).mono ?_; rintro e w2 ⟨rfl, hB2⟩) | (go_at_call 27; refine (in_no _ _ _ _ HNOI.out).mono ?_; rintro e w3 ⟨rfl, rfl⟩) | (go_at_call 29; refine (HF.out _).mono ?_; rintro e w4 ⟨rfl, hB4⟩))
            exact ⟨⟨k + n, rs, O, H ++ V, HRS.out, n1, by go_num, rfl, rfl, HD3, Lib.hid (by
              rw [← HP4.out]
              simp only [ByteArray.data_append, Array.toList_append]), by
              rw [ByteArray.size_append]
              omega, hB.trans ((hB2.trans (hB4.mono hB2.size)).mono hB.size)⟩, by simp [intOf]; omega⟩
      · obtain rfl : k = s.size := by omega
        have HT0 : Hid (O.data.toList ++ flushL H.data.toList = T) := Lib.hid (by
          have h1 := HD.out
          rw [List.drop_eq_nil_of_le (by omega)] at h1
          cases todo with
          | nil => exact HP.out
          | cons r rs =>
            exfalso
            rw [bytesOf_cons] at h1
            exact put_ne r (htodo r (List.mem_cons_self ..)) (List.append_eq_nil_iff.1 h1.symm).1)
        have hF := FL.out H
        have hFl := (flushL_len H.data.toList).1
        have hHl : H.data.toList.length = H.size := by simp
        have hvl : (⟨(flushL H.data.toList).toArray⟩ : ByteArray).size ≤ 2 * H.size + 3 := by show (flushL H.data.toList).toArray.size ≤ _; rw [List.size_toArray]; omega
        have hvl0 : (⟨(flushL H.data.toList).toArray⟩ : ByteArray).data.toList = flushL H.data.toList := rfl
        rw [← hvl0] at HT0
        generalize hV : (⟨(flushL H.data.toList).toArray⟩ : ByteArray) = V at hF hvl HT0
        have hHs : H.size ≤ 67108864 := by omega
        have HF := Lib.hid (fun w => hF w hHs)
        clear hF hV hFl hHl htodo hvl0
        go_wp2_with (first | (go_at_call 28; refine (HF.out _).mono ?_; rintro e w4 ⟨rfl, hB4⟩))
        go_ret2
        exact ⟨.inl ⟨O ++ V, by rw [HT.out, ← HT0.out]; simp only [ByteArray.data_append, Array.toList_append], HVD.out, rfl⟩, hB.trans (hB4.mono hB.size)⟩
end Go.Proofs.YtdgdflbhjbgmdaaDoor
