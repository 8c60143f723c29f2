/-
  Names, read by the program: the walks of impl's readShift, readShifts, GetName.
-/
import Derived.Test.YtdgdflbhjbgmdaaDoorGiA
import Derived.Test.YtdgdflbhjbgmdaaDoorBsH
import Derived.Test.YtdgdflbhjbgmdaaDoorPnX
import Derived.Test.YtdgdflbhjbgmdaaDoorGnS
namespace Go.Proofs.YtdgdflbhjbgmdaaDoor
set_option linter.unusedVariables false
open Go.RowKit

set_option maxRecDepth 100000 in
set_option maxHeartbeats 1000000 in
theorem readShift_any (s : ByteArray) (w : World) (hs : s.size ≤ 67108864) (hM : MaxLenAt w) :
    Calls Tryd.prog 47 #[.string s] w (TellsSigns (pieceI s.data.toList) w) := by
  by_cases he : s.size = 0
  · have e : s = ⟨#[]⟩ := by
      apply ByteArray.ext
      apply Array.ext'
      have : s.data.toList.length = 0 := by simpa using he
      exact List.eq_nil_of_length_eq_zero this
    subst e
    have hp : Hid (pieceI (⟨#[]⟩ : ByteArray).data.toList = some [38]) := Lib.hid (by unfold pieceI; rw [if_pos rfl])
    go_enter Tryd.func47, Tryd.ntmps47
    go_wp2_with fail
    go_ret2
    exact ⟨.inl ⟨⟨#[38]⟩, hp.out, rfl⟩, Below.refl _ _⟩
  · have hne : s.data.toList ≠ [] := by
      intro e
      apply he
      have := congrArg List.length e
      simpa using this
    have hemp : s.toList.isEmpty = false := by
      rw [Lib.toList_data]
      cases h : s.data.toList with
      | nil => exact absurd h hne
      | cons x l => rfl
    have RA := Lib.hid (replAll_any s 44 47 w hM (by omega) (by decide))
    obtain ⟨P, hP⟩ : ∃ P, pieceI s.data.toList = P := ⟨_, rfl⟩
    rw [hP]
    unfold pieceI at hP
    rw [if_neg hne] at hP
    have hUl : (⟨(swapL 44 47 s.data.toList).toArray⟩ : ByteArray).data.toList = swapL 44 47 s.data.toList := rfl
    have hUs : (⟨(swapL 44 47 s.data.toList).toArray⟩ : ByteArray).size = s.size := by show (swapL 44 47 s.data.toList).toArray.size = s.size; rw [List.size_toArray, swapL_len]; simp
    generalize (⟨(swapL 44 47 s.data.toList).toArray⟩ : ByteArray) = U at RA hUl hUs
    rw [← hUl] at hP
    have HP := Lib.hid hP
    clear hP hUl hne he hM
    go_enter Tryd.func47, Tryd.ntmps47
    go_wp2_with fail
    refine RA.out.mono ?_
    rintro e w1 ⟨rfl, hB1⟩
    go_wp2_with fail
    refine (implGetB64_any U _ (by omega)).mono ?_
    intro e2 w2 hr2
    have hB2 := hB1.trans (hr2.2.mono hB1.size)
    rcases hr2.1 with ⟨o, rfl, ho⟩ | ⟨rfl, ho⟩
    · have hun : unB U.data.toList = some o.data.toList := by rw [← ho]; exact unB_b64 _
      have hosz : o.size ≤ U.size := by
        have h1 := congrArg List.length ho
        rw [b64_len] at h1
        have h2 : o.data.toList.length = o.size := by simp
        have h3 : U.data.toList.length = U.size := by simp
        omega
      have hp := HP.out
      rw [hun] at hp
      have hol : o.data.toList.length = o.size := by simp
      simp only [hol] at hp
      clear hr2 ho hun hol
      by_cases hev : o.size % 2 = 0
      · rw [if_pos hev] at hp
        have SG := Lib.hid (fun w => signsOf_any o w (by omega) hev)
        rw [hp] at SG
        have e2 : (((o.size : Int) % 2) == 0) = true := by rw [beq_iff_eq]; omega
        clear hp hev
        go_wp2_with fail
        refine (SG.out _).mono ?_
        intro e3 w3 hr3
        have hB3 := hB2.trans (hr3.2.mono hB2.size)
        rcases hr3.1 with ⟨o2, ho2, rfl⟩ | ⟨ho2, rfl⟩
        · have HO2 := Lib.hid ho2
          clear hr3 ho2
          go_wp2_with fail
          go_ret2
          exact ⟨.inl ⟨o2, HO2.out, rfl⟩, hB3⟩
        · have HO2 := Lib.hid ho2
          clear hr3 ho2
          go_wp2_with fail
          go_ret2
          exact ⟨.inr ⟨HO2.out, rfl⟩, hB3⟩
      · rw [if_neg hev] at hp
        have HN := Lib.hid hp
        have e2 : (((o.size : Int) % 2) == 0) = false := by rw [beq_eq_false_iff_ne]; omega
        clear hp hev
        go_wp2_with fail
        go_ret2
        exact ⟨.inr ⟨HN.out.symm, rfl⟩, hB2⟩
    · have hp := HP.out
      rw [unB_none _ ho] at hp
      have HN := Lib.hid hp
      clear hr2 ho hp
      go_wp2_with fail
      go_ret2
      exact ⟨.inr ⟨HN.out.symm, rfl⟩, hB2⟩

/-- The first place of b in l, as Find tells it. -/
def ixI (b : UInt8) (l : List UInt8) : Int := match idx b l with | none => -1 | some n => (n : Int)
theorem index_amp (R : ByteArray) (b : UInt8) : Lib.index R.data.toList (⟨#[b]⟩ : ByteArray).data.toList = ixI b R.data.toList := index_idx b _
theorem signsGo_len (l : List UInt8) : ∀ (n i : Nat) (t : List UInt8), signsGo l n i = some t → t.length ≤ 4 * (l.length - i) := by
  intro n
  induction n with
  | zero =>
    intro i t h
    rw [signsGo] at h
    rw [← Option.some.inj h]
    simp
  | succ n ih =>
    intro i t h
    rw [signsGo] at h
    split at h
    · split at h
      · split at h
        · cases h
        · rename_i h1 h2 h3
          obtain ⟨u, hu, rfl⟩ := Option.map_eq_some_iff.1 h
          have h4 := ih _ _ hu
          have h5 := put_len (65536 + (halfAt l i - 55296) * 1024 + halfAt l (i + 2) - 56320)
          rw [List.length_append]
          omega
      · obtain ⟨u, hu, rfl⟩ := Option.map_eq_some_iff.1 h
        have h4 := ih _ _ hu
        have h5 := put_len (halfAt l i)
        rw [List.length_append]
        omega
    · rw [← Option.some.inj h]
      simp

theorem pieceI_len (mid t : List UInt8) (h : pieceI mid = some t) : t.length ≤ 4 * mid.length + 1 := by
  unfold pieceI at h
  split at h
  · rw [← Option.some.inj h]; simp
  · split at h
    · cases h
    · rename_i o ho
      split at h
      · have h1 := signsGo_len o o.length 0 t h
        have h2 := (unB_len _ _ ho).1
        rw [swapL_len] at h2
        omega
      · cases h
theorem amp_fail (p : List UInt8 → Option (List UInt8)) (t : List UInt8) (j : Nat) (h : idx 45 t = some j) (hq : p (t.take j) = none) : getG p (38 :: t) = none := by
  rw [getG_amp, h]
  simp only [hq, Option.bind_none]
/-- What is read is at most four times as long. -/
theorem getGo_len : ∀ (n : Nat) (l t : List UInt8), getGo pieceI n l = some t → t.length ≤ 4 * l.length := by
  intro n
  induction n with
  | zero =>
    intro l t h
    rw [getGo] at h
    rw [← Option.some.inj h]
    simp
  | succ n ih =>
    intro l t h
    cases l with
    | nil =>
      rw [getGo] at h
      rw [← Option.some.inj h]
      simp
    | cons x r =>
      rw [getGo] at h
      split at h
      · obtain ⟨u, hu, rfl⟩ := Option.map_eq_some_iff.1 h
        have := ih _ _ hu
        simp only [List.length_cons]
        omega
      · cases hk : idx 45 r with
        | none => rw [hk] at h; cases h
        | some k =>
          rw [hk] at h
          simp only at h
          obtain ⟨q, hq, h2⟩ := Option.bind_eq_some_iff.1 h
          obtain ⟨u, hu, rfl⟩ := Option.map_eq_some_iff.1 h2
          have h3 := ih _ _ hu
          have h4 := pieceI_len _ _ hq
          have h5 := (idx_some _ _ _ hk).1
          rw [List.length_drop] at h3
          rw [List.length_take] at h4
          rw [List.length_append, List.length_cons]
          omega
theorem readShifts_len (s O : ByteArray) (hs : s.size ≤ 1048576) (h : getG pieceI s.data.toList = some O.data.toList) : O.size ≤ 4194304 := by
  have h1 := getGo_len _ _ _ h
  have h2 : O.data.toList.length = O.size := by simp
  have h3 : s.data.toList.length = s.size := by simp
  omega
def strLen : Value → Nat
  | .string s => s.size
  | _ => 0

set_option maxRecDepth 100000 in
set_option maxHeartbeats 2000000 in
theorem readShifts_any (s : ByteArray) (w : World) (hs : s.size ≤ 1048576) (hM : MaxLenAt w) :
    Calls Tryd.prog 31 #[.string s] w (TellsSigns (getG pieceI s.data.toList) w) := by
  obtain ⟨i0, hi, hz0, hz1, hz2⟩ := info_parts infoByteJ
  obtain ⟨T, hT⟩ : ∃ T, getG pieceI s.data.toList = T := ⟨_, rfl⟩
  rw [hT]
  have HT := Lib.hid hT
  have HM := Lib.hid hM
  clear hT
  have FI := Lib.hid (fun (u t : ByteArray) w hm hu => implFind_any u t w hm hu)
  go_enter Tryd.func31, Tryd.ntmps31
  go_wp2_with fail
  refine (FI.out s ⟨#[38]⟩ _ HM.out (by omega)).mono ?_
  rw [index_amp]
  rintro e w1 ⟨rfl, rfl⟩
  go_wp2_with fail
  go_loopw [4, 5, 6] (fun o r a wr => ∃ (R : ByteArray) (O : List UInt8), r = .string R ∧ a = .int .i64 (ixI 38 R.data.toList) ∧ R.size ≤ s.size ∧ Hid ((getG pieceI R.data.toList).map (O ++ ·) = T) ∧ wr.ownsRow w1.heap.size 5 1 o O.length (O.map bv) ∧ O.length + 4 * R.size ≤ 4 * s.size ∧ Below w1.heap.size w1 wr) (fun _ r _ _ => strLen r)
  case atStart => exact ⟨s, [], rfl, rfl, by omega, Lib.hid (by rw [← HT.out]; simp), World.ownsRow_nil _ _ _ _, by simp, Below.refl _ _⟩
  case round =>
    obtain ⟨R, O, rfl, rfl, hR, HP, hown, hsize, hB⟩ := hrel
    have hlen : R.data.toList.length = R.size := by simp
    have hsz := hB.size
    cases hix : idx 38 R.data.toList with
    | none =>
      have hi1 : ixI 38 R.data.toList = -1 := by unfold ixI; rw [hix]
      have hp := HP.out
      have hg := getG_app pieceI R.data.toList [] ((idx_none 38 _).1 hix)
      rw [List.append_nil, getG_nil] at hg
      rw [hg] at hp
      have HN : Hid (T = some (O ++ R.data.toList)) := Lib.hid (by rw [← hp]; simp)
      rw [hi1]
      clear hp hg hix hi1
      go_wp2_with (at_builtin; refine Lib.wpList_append_own_string _ rfl _ _ 22 9 rfl w1.heap.size 5 i0 Tryd.underlying22 Tryd.underlying9 hi hz0 hz1 hz2 _ _ _ rfl hown R rfl (by unfold maxLen; omega) (by omega) (by omega) ?_; intro v4 w4 hOut4 hg4 _)
      have hB4 := hB.grown hg4 hsz (fun k h => (hown.lt k h).1)
      have hrow := row_app hOut4
      have hback := rowJ_back (P := Tryd.prog) hrow 22 9 5 Tryd.underlying22 Tryd.underlying5 Tryd.underlying9
      rw [hback]
      go_wp2_with fail
      go_ret2
      exact ⟨.inl ⟨_, HN.out, rfl⟩, hB4⟩
    | some a =>
      have hi1 : ixI 38 R.data.toList = (a : Int) := by unfold ixI; rw [hix]
      obtain ⟨ha, hsplit, hno⟩ := idx_some _ _ _ hix
      rw [hi1]
      have q1 : (0 : Int) ≤ (a : Int) := by omega
      have q2 : (a : Int) ≤ (R.size : Int) := by omega
      have q3 : (a : Int) + 1 ≤ (R.size : Int) := by omega
      have q4 : (0 : Int) ≤ (a : Int) + 1 := by omega
      have hV : (R.extract 0 a).data.toList = R.data.toList.take a := by rw [Lib.extract_data]; simp
      have hVs : (R.extract 0 a).size = a := by rw [ByteArray.size_extract]; omega
      have hR1 : (R.extract (a + 1) R.size).data.toList = R.data.toList.drop (a + 1) := Lib.extract_to_end R (a + 1)
      have hR1s : (R.extract (a + 1) R.size).size = R.size - (a + 1) := by rw [ByteArray.size_extract]; omega
      have hg := getG_app pieceI (R.data.toList.take a) (38 :: R.data.toList.drop (a + 1)) hno
      rw [← hsplit] at hg
      have hp := HP.out
      rw [hg, Option.map_map] at hp
      clear hg hsplit hno hix hi1
      go_wp2_with (first | (at_builtin; refine Lib.wpList_append_own_string _ rfl _ _ 22 9 rfl w1.heap.size 5 i0 Tryd.underlying22 Tryd.underlying9 hi hz0 hz1 hz2 _ _ _ rfl hown (R.extract 0 a) rfl (by unfold maxLen; omega) (by omega) (by omega) ?_; intro v4 w4 hOut4 hg4 _))
      have hB4 := hB.grown hg4 hsz (fun k h => (hown.lt k h).1)
      have hrow4 : w4.ownsRow w1.heap.size 5 1 v4 (O ++ R.data.toList.take a).length ((O ++ R.data.toList.take a).map bv) := by
        have h6 := hOut4
        rw [strCells_bv, hV] at h6
        rw [List.length_append, List.map_append, ← hV]
        simpa [hV] using h6
      clear hOut4 hg4 hown hB
      generalize R.extract (a + 1) R.size = R1 at hR1 hR1s ⊢
      have hR1t : R1.size + (a + 1) ≤ R.size := by omega
      clear hR1s
      have hO4l : (O ++ R.data.toList.take a).length = O.length + a := by rw [List.length_append, List.length_take]; omega
      rw [← hR1] at hp
      have HO4 : Hid ((getG pieceI (38 :: R1.data.toList)).map ((O ++ R.data.toList.take a) ++ ·) = T) := Lib.hid (by
        rw [← hp]
        congr 1
        funext z
        simp)
      generalize O ++ R.data.toList.take a = O4 at hrow4 hO4l HO4
      have hsz4 := hB4.size
      clear hp hV hVs hR1 q1 q2 q3 q4
      refine (FI.out R1 ⟨#[45]⟩ _ (HM.out.after hB4) (by omega)).mono ?_
      rw [index_amp]
      have hlen1 : R1.data.toList.length = R1.size := by simp
      cases hjx : idx 45 R1.data.toList with
      | none =>
        have hi2 : ixI 45 R1.data.toList = -1 := by unfold ixI; rw [hjx]
        have hp := HO4.out
        rw [amp_none _ _ hjx] at hp
        have HN : Hid (T = none) := Lib.hid hp.symm
        rw [hi2]
        rintro e w5 ⟨rfl, rfl⟩
        clear hp hjx hi2
        go_wp2_with fail
        go_ret2
        exact ⟨.inr ⟨HN.out, rfl⟩, hB4⟩
      | some j =>
        have hi2 : ixI 45 R1.data.toList = (j : Int) := by unfold ixI; rw [hjx]
        have hj := (idx_some _ _ _ hjx).1
        rw [hi2]
        rintro e w5 ⟨rfl, rfl⟩
        have q1 : (0 : Int) ≤ (j : Int) := by omega
        have q2 : (j : Int) ≤ (R1.size : Int) := by omega
        have q3 : (j : Int) + 1 ≤ (R1.size : Int) := by omega
        have q4 : (0 : Int) ≤ (j : Int) + 1 := by omega
        have hM : (R1.extract 0 j).data.toList = R1.data.toList.take j := by rw [Lib.extract_data]; simp
        have hMs : (R1.extract 0 j).size = j := by rw [ByteArray.size_extract]; omega
        have hR2 : (R1.extract (j + 1) R1.size).data.toList = R1.data.toList.drop (j + 1) := Lib.extract_to_end R1 (j + 1)
        have HR2t : Hid ((R1.extract (j + 1) R1.size).size + (j + 1) ≤ R1.size) := Lib.hid (by rw [ByteArray.size_extract]; omega)
        have RS := Lib.hid (readShift_any (R1.extract 0 j) w5 (by omega) (HM.out.after hB4))
        have HJX := Lib.hid hjx
        have HM1 := Lib.hid hM
        clear hi2 hjx hM
        go_wp2_with fail
        refine RS.out.mono ?_
        intro e6 w6 hr6
        have hB6' := hr6.2
        rcases hr6.1 with ⟨o, ho, rfl⟩ | ⟨ho, rfl⟩
        · rw [HM1.out] at ho
          have hol := pieceI_len _ _ ho
          rw [List.length_take] at hol
          have hos : o.data.toList.length = o.size := by simp
          have hp := HO4.out
          rw [amp_some pieceI _ _ j HJX.out ho, Option.map_map, ← hR2] at hp
          have hown6 := row_below hrow4 hB6' (fun g hg => (hrow4.lt g hg).2)
          have hB6 := hB4.trans (hB6'.mono hsz4)
          have hsz6 := hB6.size
          clear hr6 ho hB6'
          have FI2 := Lib.hid (fun w hm => FI.out (R1.extract (j + 1) R1.size) ⟨#[38]⟩ w hm (by have := HR2t.out; omega))
          rw [index_amp] at FI2
          have HP2 : Hid ((getG pieceI (R1.extract (j + 1) R1.size).data.toList).map ((O4 ++ o.data.toList) ++ ·) = T) := Lib.hid (by
            rw [← hp]
            congr 1
            funext z
            simp)
          clear hp hR2
          go_wp2_with (first | (at_builtin; refine Lib.wpList_append_own_string _ rfl _ _ 22 9 rfl w1.heap.size 5 i0 Tryd.underlying22 Tryd.underlying9 hi hz0 hz1 hz2 _ _ _ rfl hown6 o rfl (by unfold maxLen; omega) (by omega) (by omega) ?_; intro v7 w7 hOut7 hg7 _; have hB7 := hB6.grown hg7 hsz6 (fun k h => (hown6.lt k h).1)) | (go_at_call 46; refine (FI2.out _ (HM.out.after hB7)).mono ?_; rintro e w8 ⟨rfl, rfl⟩))
          have hrow7 := row_app hOut7
          go_roundw
          case rel => exact ⟨R1.extract (j + 1) R1.size, O4 ++ o.data.toList, rfl, by rw [Lib.extract_data], by have := HR2t.out; omega, HP2, hrow7, by have := HR2t.out; rw [List.length_append]; omega, hB7⟩
          case measure =>
            have := HR2t.out
            show (R1.extract (j + 1) R1.size).size < R.size
            omega
        · rw [HM1.out] at ho
          have hp := HO4.out
          rw [amp_fail pieceI _ j HJX.out ho] at hp
          have HN : Hid (T = none) := Lib.hid hp.symm
          have hB6 := hB4.trans (hB6'.mono hsz4)
          clear hr6 ho hB6' hp
          go_wp2_with fail
          go_ret2
          exact ⟨.inr ⟨HN.out, rfl⟩, hB6⟩

set_option maxRecDepth 100000 in
set_option maxHeartbeats 2000000 in
theorem implGetName_any (s : ByteArray) (w : World) (hs : s.size ≤ 1048576) (hT : Tabs8 w) (hM : MaxLenAt w) :
    Calls Tryd.prog 15 #[.string s] w (GetsName s.data.toList w) := by
  obtain ⟨A, hA⟩ : ∃ A, getG pieceI s.data.toList = A := ⟨_, rfl⟩
  have RS := Lib.hid (readShifts_any s w hs hM)
  rw [hA] at RS
  have HA := Lib.hid hA
  have HT := Lib.hid hT
  have HM := Lib.hid hM
  clear hA hT hM
  go_enter Tryd.func15, Tryd.ntmps15
  go_wp2_with fail
  refine RS.out.mono ?_
  intro e1 w1 hr1
  have hB1 := hr1.2
  rcases hr1.1 with ⟨O, hO, rfl⟩ | ⟨hO, rfl⟩
  · have hF : A = some O.data.toList := hO
    have HF := Lib.hid hF
    have ONLY : Hid (nameOf O.data.toList ≠ some s.data.toList → ∀ x, nameOf x ≠ some s.data.toList) := Lib.hid (fun hn x hx => by
      have h1 := read_backI hx
      rw [HA.out, HF.out] at h1
      rw [← Option.some.inj h1] at hx
      exact hn hx)
    have hlenO : O.size ≤ 4194304 := readShifts_len s O hs (by rw [HA.out]; exact hO)
    clear hr1 hO hF
    go_wp2_with fail
    refine (implPutName_any O _ hlenO (HT.out.later hB1) (HM.out.after hB1)).mono ?_
    intro e5 w5 hr5
    have hB5 := hB1.trans (hr5.2.mono hB1.size)
    rcases hr5.1 with ⟨o, ho, _, rfl⟩ | ⟨ho, _, rfl⟩
    · clear hr5
      by_cases he : o = s
      · subst he
        have HO := Lib.hid ho
        clear ho
        go_wp2_with fail
        go_ret2
        exact ⟨.inl ⟨O, HO.out, by omega, rfl⟩, hB5⟩
      · have hne : (o.toList == s.toList) = false := by
          rw [beq_eq_false_iff_ne, Lib.toList_data, Lib.toList_data]
          intro e; apply he
          exact ByteArray.ext (Array.ext' e)
        have HO := Lib.hid (ONLY.out (by
          rw [ho]
          intro e
          exact he (ByteArray.ext (Array.ext' (Option.some.inj e)))))
        clear ho he
        go_wp2_with fail
        go_ret2
        exact ⟨.inr ⟨HO.out, rfl⟩, hB5⟩
    · clear hr5
      have HO := Lib.hid (ONLY.out (by rw [ho]; intro e; cases e))
      clear ho
      go_wp2_with fail
      go_ret2
      exact ⟨.inr ⟨HO.out, rfl⟩, hB5⟩
  · have HO : Hid (∀ x, nameOf x ≠ some s.data.toList) := Lib.hid (fun x hx => by
      have h1 := read_backI hx
      rw [HA.out, hO] at h1
      cases h1)
    clear hr1 hO
    go_wp2_with fail
    go_ret2
    exact ⟨.inr ⟨HO.out, rfl⟩, hB1⟩
end Go.Proofs.YtdgdflbhjbgmdaaDoor
