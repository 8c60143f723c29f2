/-
  Names, read: the walk of spec.GetName.
-/
import Derived.Test.YtdgdflbhjbgmdaaDoorGnT
import Derived.Test.YtdgdflbhjbgmdaaDoorFindS
namespace Go.Proofs.YtdgdflbhjbgmdaaDoor
set_option linter.unusedVariables false
open Go.RowKit

theorem index_idx (b : UInt8) (l : List UInt8) : Lib.index l [b] = match idx b l with | none => -1 | some n => (n : Int) := by
  rw [Lib.index_one]
  exact idx_byte b l

theorem amp_none (p : List UInt8 → Option (List UInt8)) (t : List UInt8) (h : idx 45 t = none) : getG p (38 :: t) = none := by
  rw [getG_amp, h]
theorem amp_some (p : List UInt8 → Option (List UInt8)) (t q : List UInt8) (j : Nat) (h : idx 45 t = some j) (hq : p (t.take j) = some q) : getG p (38 :: t) = (getG p (t.drop (j + 1))).map (q ++ ·) := by
  rw [getG_amp, h]
  simp only [hq, Option.bind_some]

/-- GetB64's text, whatever it tells beside. -/
theorem reads_any {U : ByteArray} {w w' : World} {e : Ending} (h : ReadsB64 U.data.toList w e w') : ∃ (o : ByteArray) (b : Bool), e = .returned (.tuple #[.string o, .bool b]) ∧ o.data.toList = (unB U.data.toList).getD [] ∧ o.size ≤ U.size ∧ Below w.heap.size w w' := by
  rcases h.1 with ⟨o, rfl, ho⟩ | ⟨rfl, ho⟩
  · refine ⟨o, true, rfl, ?_, ?_, h.2⟩
    · rw [← ho, unB_b64]; rfl
    · have h1 := congrArg List.length ho
      rw [b64_len] at h1
      have h2 : o.data.toList.length = o.size := by simp
      have h3 : U.data.toList.length = U.size := by simp
      omega
  · exact ⟨⟨#[]⟩, false, rfl, by rw [unB_none _ ho]; rfl, Nat.zero_le _, h.2⟩

set_option maxRecDepth 100000 in
set_option maxHeartbeats 2000000 in
theorem specGetName_any (s : ByteArray) (w : World) (hs : s.size ≤ 1048576) :
    Calls Tryd.prog 17 #[.string s] w (GetsName s.data.toList w) := by
  obtain ⟨A, hA⟩ : ∃ A, getG pieceS s.data.toList = A := ⟨_, rfl⟩
  have HA := Lib.hid hA
  clear hA
  have FI := Lib.hid (fun (u t : ByteArray) w hu ht => specFind_any u t w hu ht)
  have GB := Lib.hid (fun (u : ByteArray) w hu => specGet_any u w hu)
  have SW : Hid (∀ (u : ByteArray) w, u.size ≤ 1000000000 → Calls Tryd.prog 36 #[.string u, .int .u8 44, .int .u8 47] w fun e w' => e = .returned (.string ⟨(swapL 44 47 u.data.toList).toArray⟩) ∧ Below w.heap.size w w') := Lib.hid (fun (u : ByteArray) w hu => swap_any u 44 47 w hu)
  have TX := Lib.hid (fun (u : ByteArray) w hu => specText_any u w hu)
  have PN := Lib.hid (fun (u : ByteArray) w hu => specPutName_any u w hu)
  go_enter Tryd.func17, Tryd.ntmps17
  go_wp2
  go_loopw [4, 5] (fun o i wr => ∃ (k : Nat) (O : ByteArray), k ≤ s.size ∧ i = .int .i64 (k : Int) ∧ o = .string O ∧ Hid ((getG pieceS (s.data.toList.drop k)).map (O.data.toList ++ ·) = A) ∧ O.size ≤ 2 * k ∧ Below w.heap.size w wr) (fun _ i _ => s.size - (intOf i).toNat)
  case atStart => exact ⟨0, ⟨#[]⟩, by omega, rfl, rfl, Lib.hid (by rw [← HA.out, List.drop_zero]; simp), by decide, Below.refl _ _⟩
  case round =>
    obtain ⟨k, O, hk, rfl, rfl, HP, hsize, hB⟩ := hrel
    have hlen : s.data.toList.length = s.size := by simp
    by_cases hlt : k < s.size
    · have hcons : s.data.toList.drop k = s[k] :: s.data.toList.drop (k + 1) := by
        rw [List.drop_eq_getElem_cons (by omega)]
        rfl
      have hp := HP.out
      rw [hcons] at hp
      have q1 : IntKind.i64.wrap ((k : Int) + 1) = (k : Int) + 1 := by rw [IntKind.wrap_i64]; omega
      have q2 : (0 : Int) ≤ (k : Int) := by omega
      have q3 : (0 : Int) ≤ (k : Int) + 1 := by omega
      have q4 : (k : Int) ≤ (k : Int) + 1 := by omega
      have q5 : (k : Int) + 1 ≤ (s.size : Int) := by omega
      by_cases h38 : s[k] = 38
      · have t38 : ((s[k].toNat : Int) == 38) = true := by rw [h38]; rfl
        rw [h38] at hp hcons
        have hsz0 : (s.extract k s.size).size ≤ 1048576 := by rw [ByteArray.size_extract]; omega
        have hF := fun w => FI.out (s.extract k s.size) ⟨#[45]⟩ w hsz0 (by decide)
        rw [Lib.extract_to_end, hcons, show (⟨#[45]⟩ : ByteArray).data.toList = [45] from rfl, index_idx, idx, if_neg (by decide)] at hF
        cases hix : idx 45 (s.data.toList.drop (k + 1)) with
        | none =>
          rw [amp_none _ _ hix] at hp
          rw [hix] at hF
          have HF : Hid (∀ w, Calls Tryd.prog 34 #[.string (s.extract k s.size), .string ⟨#[45]⟩] w fun e w' => e = .returned (.int .i64 (-1)) ∧ w' = w) := Lib.hid hF
          have HNO : Hid (∀ x, nameOf x ≠ some s.data.toList) := Lib.hid (fun x hx => by
            have h1 := read_backS hx
            rw [HA.out, ← hp] at h1
            cases h1)
          clear hF hp hcons h38 hix
          go_wp2_with fail
          refine (HF.out _).mono ?_
          rintro e w2 ⟨rfl, rfl⟩
          go_wp2_with fail
          go_ret2
          exact ⟨.inr ⟨HNO.out, rfl⟩, hB⟩
        | some j =>
          rw [hix] at hF
          have hjl := (idx_some _ _ _ hix).1
          rw [List.length_drop] at hjl
          have HF : Hid (∀ w, Calls Tryd.prog 34 #[.string (s.extract k s.size), .string ⟨#[45]⟩] w fun e w' => e = .returned (.int .i64 ((j : Int) + 1)) ∧ w' = w) := Lib.hid (fun w => by
            have := hF w
            simpa using this)
          obtain ⟨mid, hmid⟩ : ∃ mid, (s.data.toList.drop (k + 1)).take j = mid := ⟨_, rfl⟩
          have hml : mid.length = j := by rw [← hmid, List.length_take, List.length_drop]; omega
          have hU : (⟨(swapL 44 47 mid).toArray⟩ : ByteArray).data.toList = swapL 44 47 mid := rfl
          have hUs : (⟨(swapL 44 47 mid).toArray⟩ : ByteArray).size = j := by show (swapL 44 47 mid).toArray.size = j; rw [List.size_toArray, swapL_len, hml]
          have SWM : Hid (∀ M : ByteArray, M.data.toList = mid → ∀ w, Calls Tryd.prog 36 #[.string M, .int .u8 44, .int .u8 47] w fun e w' => e = .returned (.string ⟨(swapL 44 47 mid).toArray⟩) ∧ Below w.heap.size w w') := Lib.hid (fun M hM w => by
            have h1 : M.size = j := by rw [← hml, ← hM]; simp
            have h2 := SW.out M w (by omega)
            rw [hM] at h2
            exact h2)
          generalize (⟨(swapL 44 47 mid).toArray⟩ : ByteArray) = U at hU hUs SWM
          have hpiece : ∀ q, pieceS mid = some q → (getG pieceS (s.data.toList.drop (k + (j + 1) + 1))).map ((O.data.toList ++ q) ++ ·) = A := fun q hq => by
            rw [amp_some pieceS _ q j hix (by rw [hmid]; exact hq), List.drop_drop, Option.map_map, show k + 1 + (j + 1) = k + (j + 1) + 1 by omega] at hp
            rw [← hp]
            congr 1
            funext z
            simp
          have HPI := Lib.hid hpiece
          have HMID := Lib.hid hmid
          have HU := Lib.hid hU
          clear hF hp hcons h38 hix hpiece hmid hU
          have r1 : IntKind.i64.wrap ((k : Int) + ((j : Int) + 1)) = (k : Int) + ((j : Int) + 1) := by rw [IntKind.wrap_i64]; omega
          have r2 : (0 : Int) ≤ (k : Int) + ((j : Int) + 1) := by omega
          have r3 : (k : Int) + 1 ≤ (k : Int) + ((j : Int) + 1) := by omega
          have r4 : (k : Int) + ((j : Int) + 1) ≤ (s.size : Int) := by omega
          go_wp2_with fail
          refine (HF.out _).mono ?_
          rintro e w2 ⟨rfl, rfl⟩
          go_wp2_with fail
          have hmx : (s.extract (k + 1) (k + (j + 1))).data.toList = mid := by
            rw [Lib.extract_data, show k + (j + 1) - (k + 1) = j by omega]
            exact HMID.out
          refine (SWM.out _ hmx _).mono ?_
          clear hmx
          rintro e w3 ⟨rfl, hB3⟩
          go_wp2_with fail
          refine (GB.out U _ (by omega)).mono ?_
          intro e4 w4 hr4
          obtain ⟨o, b, rfl, ho, hos, hB4⟩ := reads_any hr4
          clear hr4
          rw [HU.out] at ho
          have HO := Lib.hid ho
          have hB5 : Below w.heap.size w w4 := hB.trans ((hB3.trans (hB4.mono hB3.size)).mono hB.size)
          clear ho hB3 hB4
          by_cases hj : j = 0
          · subst hj
            have HP3 : Hid ((getG pieceS (s.data.toList.drop (k + (0 + 1) + 1))).map ((O ++ ⟨#[38]⟩).data.toList ++ ·) = A) := Lib.hid (by
              have h1 := HPI.out [38] (by unfold pieceS; rw [if_pos (List.eq_nil_of_length_eq_zero hml)])
              rw [ByteArray.data_append, Array.toList_append]
              exact h1)
            have z1 : (⟨#[38]⟩ : ByteArray).size = 1 := rfl
            go_wp2_with fail
            exact ⟨⟨k + (0 + 1) + 1, O ++ ⟨#[38]⟩, by omega, by go_num, rfl, HP3, by rw [ByteArray.size_append]; omega, hB5⟩, by simp [intOf]; omega⟩
          · have t1 : ((j : Int) + 1 == 1) = false := by rw [beq_eq_false_iff_ne]; omega
            have tx := fun w => TX.out o w (by omega)
            have hvs : (⟨(textS o.data.toList).toArray⟩ : ByteArray).size ≤ 2 * j := by
              show (textS o.data.toList).toArray.size ≤ 2 * j
              have h1 := textS_len o.data.toList
              have h2 : o.data.toList.length = o.size := by simp
              rw [List.size_toArray]
              omega
            have HP3 : Hid ((getG pieceS (s.data.toList.drop (k + (j + 1) + 1))).map ((O ++ ⟨(textS o.data.toList).toArray⟩).data.toList ++ ·) = A) := Lib.hid (by
              have h1 := HPI.out (textS o.data.toList) (by
                unfold pieceS
                rw [if_neg (fun e => hj (by rw [← hml, e]; rfl)), HO.out])
              rw [ByteArray.data_append, Array.toList_append]
              exact h1)
            generalize (⟨(textS o.data.toList).toArray⟩ : ByteArray) = V at tx hvs HP3
            have TXO := Lib.hid tx
            clear tx hj
            go_wp2_with fail
            refine (TXO.out _).mono ?_
            rintro e w6 ⟨rfl, hB6⟩
            go_wp2_with fail
            exact ⟨⟨k + (j + 1) + 1, O ++ V, by omega, by go_num, rfl, HP3, by rw [ByteArray.size_append]; omega, hB5.trans (hB6.mono hB5.size)⟩, by simp [intOf]; omega⟩
      · have t38 : ((s[k].toNat : Int) == 38) = false := by
          rw [beq_eq_false_iff_ne]
          intro e
          apply h38
          apply UInt8.toNat_inj.1
          have : ((38 : UInt8).toNat : Int) = 38 := rfl
          omega
        rw [getG_cons _ _ _ h38, Option.map_map] at hp
        have hsg : (s.extract k (k + 1)).data.toList = [s[k]] := by
          rw [Lib.extract_data, show k + 1 - k = 1 by omega, hcons]
          rfl
        have HP2 : Hid ((getG pieceS (s.data.toList.drop (k + 1))).map ((O ++ s.extract k (k + 1)).data.toList ++ ·) = A) := Lib.hid (by
          rw [← hp, ByteArray.data_append, Array.toList_append, hsg]
          congr 1
          funext z
          simp)
        have q6 : ¬ 9223372036854775807 < O.size + (min (k + 1) s.size - k) := by omega
        clear hp hcons hsg h38
        go_wp2_with fail
        exact ⟨⟨k + 1, O ++ s.extract k (k + 1), by omega, by go_num, rfl, HP2, by rw [ByteArray.size_append, ByteArray.size_extract]; omega, hB⟩, by simp [intOf]; omega⟩
    · obtain rfl : k = s.size := by omega
      have hfin : A = some O.data.toList := by
        rw [← HP.out, List.drop_eq_nil_of_le (by omega), getG_nil]
        simp
      have HF := Lib.hid hfin
      have hPN := fun w => PN.out O w (by omega)
      have HPN := Lib.hid hPN
      have ONLY : Hid (nameOf O.data.toList ≠ some s.data.toList → ∀ x, nameOf x ≠ some s.data.toList) := Lib.hid (fun hn x hx => by
        have h1 := read_backS hx
        rw [HA.out, HF.out] at h1
        rw [← Option.some.inj h1] at hx
        exact hn hx)
      clear hfin hPN hlen
      go_wp2_with fail
      refine (HPN.out _).mono ?_
      intro e5 w5 hr5
      have hB5 := hB.trans (hr5.2.mono hB.size)
      rcases hr5.1 with ⟨o, ho, _, rfl⟩ | ⟨ho, _, rfl⟩
      · clear hr5
        by_cases he : o = s
        · subst he
          have HO := Lib.hid ho
          clear ho
          go_wp2_with fail
          go_ret2
          exact ⟨.inl ⟨O, HO.out, by omega, rfl⟩, hB5⟩
        · have hne : (o.toList == s.toList) = false := by
            rw [beq_eq_false_iff_ne, Lib.toList_data, Lib.toList_data]
            intro e; apply he
            exact ByteArray.ext (Array.ext' e)
          have HO := Lib.hid (ONLY.out (by
            rw [ho]
            intro e
            exact he (ByteArray.ext (Array.ext' (Option.some.inj e)))))
          clear ho he
          go_wp2_with fail
          go_ret2
          exact ⟨.inr ⟨HO.out, rfl⟩, hB5⟩
      · clear hr5
        have HO := Lib.hid (ONLY.out (by rw [ho]; intro e; cases e))
        clear ho
        go_wp2_with fail
        go_ret2
        exact ⟨.inr ⟨HO.out, rfl⟩, hB5⟩
end Go.Proofs.YtdgdflbhjbgmdaaDoor
