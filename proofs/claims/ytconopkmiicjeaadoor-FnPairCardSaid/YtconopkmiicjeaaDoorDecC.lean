/-
  The walks of ReadDec.
-/
import Derived.Test.YtconopkmiicjeaaDoorDecB
namespace Go.Proofs.YtconopkmiicjeaaDoor
set_option linter.unusedVariables false
open Go.RowKit

/-- What ReadDec tells. -/
def TellsDec (l : List UInt8) (w : World) (e : Ending) (w' : World) : Prop :=
  ((∃ n, goodDec l n ∧ e = .returned (.int .i64 n)) ∨ ((¬ ∃ n, goodDec l n) ∧ e = .returned (.int .i64 (-1)))) ∧ Below w.heap.size w w'

theorem bytesWorld_below (w : World) (e : TypeId) (t : ByteArray) : Below w.heap.size w (Lib.bytesWorld w e t) := by
  refine ⟨rfl, rfl, rfl, by rw [Lib.bytesWorld_size]; omega, fun k hk => Lib.bytesWorld_at_old w e t k hk⟩

theorem itoa_ne {l : List UInt8} {s : ByteArray} (hl : s.data.toList = l) {v : Int} (h : Lib.itoa v ≠ l) : ((⟨(Lib.itoa v).toArray⟩ : ByteArray).toList == s.toList) = false := by
  rw [beq_eq_false_iff_ne, ByteArray.toList_mk, Lib.toList_data, hl]
  exact h

set_option maxRecDepth 100000 in
set_option maxHeartbeats 1000000 in
theorem implRead_any (s : ByteArray) (w : World) (hs : s.size ≤ 1048576) (ht : Tens w) (he : Errs w) (hg : w.heap.size > 2 ∧ w.heap.size > 3 ∧ w.heap.size > 1) :
    Calls Tryd.prog 68 #[.string s] w (TellsDec s.data.toList w) := by
  have HT := Lib.hid ht
  obtain ⟨⟨ts, ps, hes⟩, ⟨tr, pr, her⟩⟩ := he
  have HES := Lib.hid hes
  have HER := Lib.hid her
  have HT2 : Hid (∀ w', Below w.heap.size w w' → Tens w') := Lib.hid (fun w' hb => by
    have := var_below (n := "internal/strconv.uint64pow10") (g := 1) (by kernel_rfl) hb hg.2.2
    exact this.trans HT.out)
  clear ht hes her hg
  cases ha : Lib.atoiAll s.data.toList with
  | ok v =>
    have HA := Lib.hid ha
    by_cases hr : 0 ≤ v ∧ v ≤ 999999999
    · obtain ⟨hr0, hr1⟩ := hr
      by_cases hi : Lib.itoa v = s.data.toList
      · have HG : Hid (goodDec s.data.toList v.toNat) := Lib.hid ⟨by omega, by unfold Lib.itoa at hi; rw [if_neg (by omega)] at hi; exact hi⟩
        have hst : (⟨(Lib.itoa v).toArray⟩ : ByteArray) = s := by rw [hi]
        have HST := Lib.hid hst
        clear hst hi ha
        go_enter Tryd.func68, Tryd.ntmps68
        go_wp2_with fail
        refine (Tryd.strconv_Atoi_ok s (by omega) v HA.out _).mono ?_
        rintro e w1 ⟨rfl, hw1⟩
        have HB1 : Hid (Below w.heap.size w w1) := Lib.hid (by
          rcases hw1 with rfl | ⟨t, rfl⟩
          · exact Below.refl _ _
          · exact bytesWorld_below _ _ _)
        clear hw1
        go_wp2_with fail
        refine (implDec_any v _ (by omega) (by omega) (HT2.out _ HB1.out)).mono ?_
        rw [HST.out]
        rintro e w2 ⟨rfl, hB2⟩
        go_wp2_with fail
        go_ret
        exact ⟨.inl ⟨_, HG.out, by rw [Int.toNat_of_nonneg hr0]; rfl⟩, HB1.out.trans (hB2.mono HB1.out.size)⟩
      · have HN : Hid (¬ ∃ n, goodDec s.data.toList n) := Lib.hid (by
          rintro ⟨n, hn⟩
          have := atoi_good hn
          rw [ha] at this
          injection this with this
          apply hi
          rw [this]
          unfold Lib.itoa
          rw [if_neg (by omega)]
          exact hn.2)
        have hne := itoa_ne rfl hi
        generalize hq : (⟨(Lib.itoa v).toArray⟩ : ByteArray) = q at hne
        have HQ := Lib.hid hq
        have hne2 : (q.toList != s.toList) = true := by rw [bne, hne]; rfl
        clear hq hi ha
        go_enter Tryd.func68, Tryd.ntmps68
        go_wp2_with fail
        refine (Tryd.strconv_Atoi_ok s (by omega) v HA.out _).mono ?_
        rintro e w1 ⟨rfl, hw1⟩
        have HB1 : Hid (Below w.heap.size w w1) := Lib.hid (by
          rcases hw1 with rfl | ⟨t, rfl⟩
          · exact Below.refl _ _
          · exact bytesWorld_below _ _ _)
        clear hw1
        go_wp2_with fail
        refine (implDec_any v _ (by omega) (by omega) (HT2.out _ HB1.out)).mono ?_
        rw [HQ.out]
        rintro e w2 ⟨rfl, hB2⟩
        go_wp2_with fail
        go_ret
        exact ⟨.inr ⟨HN.out, rfl⟩, HB1.out.trans (hB2.mono HB1.out.size)⟩
    · have HN : Hid (¬ ∃ n, goodDec s.data.toList n) := Lib.hid (by
        rintro ⟨n, hn⟩
        have := atoi_good hn
        rw [ha] at this
        injection this with this
        have := hn.1
        omega)
      by_cases hr0 : v < 0
      · clear hr ha
        go_enter Tryd.func68, Tryd.ntmps68
        go_wp2_with fail
        refine (Tryd.strconv_Atoi_ok s (by omega) v HA.out _).mono ?_
        rintro e w1 ⟨rfl, hw1⟩
        have HB1 : Hid (Below w.heap.size w w1) := Lib.hid (by
          rcases hw1 with rfl | ⟨t, rfl⟩
          · exact Below.refl _ _
          · exact bytesWorld_below _ _ _)
        clear hw1
        go_wp2_with fail
        go_ret
        exact ⟨.inr ⟨HN.out, rfl⟩, HB1.out⟩
      · have hr1 : 999999999 < v := by omega
        clear hr ha
        go_enter Tryd.func68, Tryd.ntmps68
        go_wp2_with fail
        refine (Tryd.strconv_Atoi_ok s (by omega) v HA.out _).mono ?_
        rintro e w1 ⟨rfl, hw1⟩
        have HB1 : Hid (Below w.heap.size w w1) := Lib.hid (by
          rcases hw1 with rfl | ⟨t, rfl⟩
          · exact Below.refl _ _
          · exact bytesWorld_below _ _ _)
        clear hw1
        go_wp2_with fail
        go_ret
        exact ⟨.inr ⟨HN.out, rfl⟩, HB1.out⟩
  | «syntax» =>
    have HA := Lib.hid ha
    have HN : Hid (¬ ∃ n, goodDec s.data.toList n) := Lib.hid (by
      rintro ⟨n, hn⟩
      have := atoi_good hn
      rw [ha] at this
      cases this)
    clear ha
    go_enter Tryd.func68, Tryd.ntmps68
    go_wp2_with fail
    refine (Tryd.strconv_Atoi_syntax_var s (by omega) HA.out ts ps _ HES.out).mono ?_
    rintro e w1 ⟨N, rfl, _, _, hB1⟩
    go_wp2_with fail
    go_ret
    exact ⟨.inr ⟨HN.out, rfl⟩, hB1⟩
  | range =>
    have HA := Lib.hid ha
    have HN : Hid (¬ ∃ n, goodDec s.data.toList n) := Lib.hid (by
      rintro ⟨n, hn⟩
      have := atoi_good hn
      rw [ha] at this
      cases this)
    clear ha
    go_enter Tryd.func68, Tryd.ntmps68
    go_wp2_with fail
    refine (Tryd.strconv_Atoi_range_var s (by omega) HA.out tr pr _ HER.out).mono ?_
    rintro e w1 ⟨N, rfl, _, _, hB1⟩
    go_wp2_with fail
    go_ret
    exact ⟨.inr ⟨HN.out, rfl⟩, hB1⟩
end Go.Proofs.YtconopkmiicjeaaDoor
