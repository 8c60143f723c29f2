/-
  Bytes in signs of six bits, read: the walk of impl.GetB64.
-/
import Derived.Test.YtdgdflbhjbgmdaaDoorBsI
import Derived.Test.YtdgdflbhjbgmdaaDoorBsF
import Derived.Test.YtdgdflbhjbgmdaaDoorShelf
namespace Go.Proofs.YtdgdflbhjbgmdaaDoor
set_option linter.unusedVariables false
open Go.RowKit

theorem indexSign_any (b : UInt8) (w : World) :
    Calls Tryd.prog 62 #[.string signsA, .int .u8 b.toNat] w (TellsSign b w) :=
  (Tryd.strings_IndexByte signsA (b.toNat : Int) w).mono fun e w' h => ⟨_, h.1, by
    have e1 : ((b.toNat : Int)).toNat.toUInt8 = b := by rw [Int.toNat_natCast]; simp
    rw [e1]
    exact index_sign b, h.2⟩

set_option maxRecDepth 100000 in
set_option maxHeartbeats 2000000 in
theorem implGetB64_any (s : ByteArray) (w : World) (hs : s.size ≤ 67108864) :
    Calls Tryd.prog 54 #[.string s] w (ReadsB64 s.data.toList w) := by
  refine Calls.mono (R := GetsB64 s.data.toList w) ?_ fun _ _ h => readsB64 h
  obtain ⟨i0, hi, hz0, hz1, hz2⟩ := info_parts infoByteJ
  go_enter Tryd.func54, Tryd.ntmps54
  go_wp2
  go_loopw [4, 5, 6, 11] (fun o n b i wr => ∃ (k B N : Nat) (L : List UInt8), k ≤ s.size ∧ i = .int .i64 (k : Int) ∧ b = .int .i64 (B : Int) ∧ n = .int .i64 ((N % 65536 : Nat) : Int) ∧ Hid (decS s.data.toList k = (B, N, L)) ∧ wr.ownsRow w.heap.size 5 1 o L.length (L.map bv) ∧ Below w.heap.size w wr) (fun _ _ _ i _ => s.size - (intOf i).toNat)
  case atStart => exact ⟨0, 0, 0, [], by omega, rfl, rfl, rfl, Lib.hid rfl, World.ownsRow_nil _ _ _ _, (Below.refl _ _)⟩
  case round =>
    obtain ⟨k, B, N, L, hk, rfl, rfl, rfl, HD, hown, hB⟩ := hrel
    have hL : L.length ≤ k := by have := decS_len s.data.toList k; rw [HD.out] at this; exact this
    have hN : N < 16777216 := by have := decS_n s.data.toList k; rw [HD.out] at this; exact this
    have hBs : B = 0 ∨ B = 2 ∨ B = 4 ∨ B = 6 := by have := decS_bits s.data.toList k; rw [HD.out] at this; exact this
    have hsz := hB.size
    obtain ⟨M, hM⟩ : ∃ M, M = N % 65536 := ⟨_, rfl⟩
    have hMl : M < 65536 := by omega
    rw [← hM]
    by_cases hlt : k < s.size
    · have hat : s.data.toList[k]? = some s[k] := by rw [List.getElem?_eq_getElem (by simpa using hlt)]; rfl
      have hgd : s.data.toList.getD k 0 = s[k] := by rw [List.getD_eq_getElem?_getD, hat]; rfl
      have HAT := Lib.hid hat
      have HGD := Lib.hid hgd
      have HM := Lib.hid hM
      clear hat hgd hM
      go_wp2_with fail
      go_at_call 62
      refine (indexSign_any s[k] _).mono ?_
      rintro e w2 ⟨x, rfl, hx, rfl⟩
      rcases hx with ⟨hsign, hu, rfl⟩ | ⟨hno, rfl⟩
      · have hstep : decS s.data.toList (k + 1) = if 2 ≤ B then (B - 2, (N * 64 + us s[k]) % 16777216, L ++ [UInt8.ofNat ((N * 64 + us s[k]) % 16777216 / 2 ^ (B - 2) % 256)]) else (B + 6, (N * 64 + us s[k]) % 16777216, L) := by
          simp only [decS, HD.out, HGD.out]
        generalize us s[k] = u at hu hstep
        have hor := or_six M u (by omega) hu
        generalize hN2 : (N * 64 + u) % 16777216 = N2 at hstep
        have hbits : bits .and .i64 ((M : Int) * 64 + (u : Int)) 65535 = ((N2 % 65536 : Nat) : Int) := by have := HM.out; rw [i64_and16]; omega
        have hN2l : N2 < 16777216 := by omega
        obtain ⟨M2, hM2⟩ : ∃ M2, M2 = N2 % 65536 := ⟨_, rfl⟩
        have hM2l : M2 < 65536 := by omega
        rw [← hM2] at hbits
        have HM2 := Lib.hid hM2
        have hnext : ∀ (D : Nat) (v' : Value) (w1 : World), M2 / D % 256 = N2 / D % 256 → w1.ownsRow w.heap.size 5 1 v' (L.length + 1) (L.map bv ++ [.int .u8 ((M2 : Int) / (D : Int) % 256)]) → w1.ownsRow w.heap.size 5 1 v' (L ++ [UInt8.ofNat (N2 / D % 256)]).length ((L ++ [UInt8.ofNat (N2 / D % 256)]).map bv) := fun D v' w1 hq hr => by
          have e : Value.int .u8 ((M2 : Int) / (D : Int) % 256) = bv (UInt8.ofNat (N2 / D % 256)) := by
            unfold bv
            rw [UInt8.toNat_ofNat']
            congr 1
            rw [Nat.mod_eq_of_lt (Nat.mod_lt _ (by decide)), ← hq]
            simp
          rw [e] at hr
          rw [List.length_append, List.map_append]
          exact hr
        clear hN2 hM2
        rcases hBs with rfl | rfl | rfl | rfl
        · simp only [Nat.reduceLeDiff, if_false] at hstep
          have HST := Lib.hid hstep
          clear hstep
          go_wp2_with fail
          go_roundw
          case rel => exact ⟨k + 1, 6, N2, L, by omega, by go_num, rfl, by rw [← HM2.out], HST, hown, hB⟩
          case measure => simp [intOf]; omega
        · simp only [Nat.reduceLeDiff, if_true, Nat.reduceSub, Nat.reducePow] at hstep
          have HST := Lib.hid hstep
          clear hstep
          go_wp2_with (at_builtin; refine wpList_append_own _ rfl _ _ 22 rfl w.heap.size 5 i0 (.int .u8 0) 1 1 Tryd.underlying22 hi hz0 hz1 hz2 rfl (by decide) _ _ _ rfl (hown.alloc _) ⟨w2.heap.size, 0, none⟩ 1 1 [.int .u8 ((M2 : Int) % 256)] rfl rfl (cell_one_new _ _ _) (by simp [Value.oneCell']) (by unfold maxLen; omega) (by omega) (by simp; omega) ?_; intro v' w1 hown2 hgrow _)
          have hB1 : Below w.heap.size w w1 := (hB.alloc hsz _).grown hgrow (by simp; omega) (fun k e => (hown.lt k e).1)
          go_roundw
          case rel => exact ⟨k + 1, 0, N2, L ++ [UInt8.ofNat (N2 / 1 % 256)], by omega, by go_num, rfl, by rw [← HM2.out], HST, hnext 1 v' w1 (by have := HM2.out; omega) (by simpa using hown2), hB1⟩
          case measure => simp [intOf]; omega
        · simp only [Nat.reduceLeDiff, if_true, Nat.reduceSub, Nat.reducePow] at hstep
          have HST := Lib.hid hstep
          clear hstep
          go_wp2_with (at_builtin; refine wpList_append_own _ rfl _ _ 22 rfl w.heap.size 5 i0 (.int .u8 0) 1 1 Tryd.underlying22 hi hz0 hz1 hz2 rfl (by decide) _ _ _ rfl (hown.alloc _) ⟨w2.heap.size, 0, none⟩ 1 1 [.int .u8 ((M2 : Int) / 4 % 256)] rfl rfl (cell_one_new _ _ _) (by simp [Value.oneCell']) (by unfold maxLen; omega) (by omega) (by simp; omega) ?_; intro v' w1 hown2 hgrow _)
          have hB1 : Below w.heap.size w w1 := (hB.alloc hsz _).grown hgrow (by simp; omega) (fun k e => (hown.lt k e).1)
          go_roundw
          case rel => exact ⟨k + 1, 2, N2, L ++ [UInt8.ofNat (N2 / 4 % 256)], by omega, by go_num, rfl, by rw [← HM2.out], HST, hnext 4 v' w1 (by have := HM2.out; omega) (by simpa using hown2), hB1⟩
          case measure => simp [intOf]; omega
        · simp only [Nat.reduceLeDiff, if_true, Nat.reduceSub, Nat.reducePow] at hstep
          have HST := Lib.hid hstep
          clear hstep
          go_wp2_with (at_builtin; refine wpList_append_own _ rfl _ _ 22 rfl w.heap.size 5 i0 (.int .u8 0) 1 1 Tryd.underlying22 hi hz0 hz1 hz2 rfl (by decide) _ _ _ rfl (hown.alloc _) ⟨w2.heap.size, 0, none⟩ 1 1 [.int .u8 ((M2 : Int) / 16 % 256)] rfl rfl (cell_one_new _ _ _) (by simp [Value.oneCell']) (by unfold maxLen; omega) (by omega) (by simp; omega) ?_; intro v' w1 hown2 hgrow _)
          have hB1 : Below w.heap.size w w1 := (hB.alloc hsz _).grown hgrow (by simp; omega) (fun k e => (hown.lt k e).1)
          go_roundw
          case rel => exact ⟨k + 1, 4, N2, L ++ [UInt8.ofNat (N2 / 16 % 256)], by omega, by go_num, rfl, by rw [← HM2.out], HST, hnext 16 v' w1 (by have := HM2.out; omega) (by simpa using hown2), hB1⟩
          case measure => simp [intOf]; omega
      · go_wp2_with fail
        go_ret2
        exact ⟨.inr ⟨rfl, .inl ⟨k, s[k], HAT.out, hno⟩⟩, hB⟩
    · obtain rfl : k = s.size := by omega
      have HD2 : Hid ((decS s.data.toList s.data.toList.length).2.2 = L) := Lib.hid (by
        have : s.data.toList.length = s.size := by simp
        rw [this, HD.out])
      have hback := rowJ_back (P := Tryd.prog) hown 22 9 5 Tryd.underlying22 Tryd.underlying5 Tryd.underlying9
      have HOL : Hid ((⟨L.toArray⟩ : ByteArray).data.toList = L) := Lib.hid rfl
      have hos : (⟨L.toArray⟩ : ByteArray).size ≤ 67108864 := by show L.toArray.size ≤ 67108864; simp; omega
      generalize hO : (⟨L.toArray⟩ : ByteArray) = O at hback HOL hos
      have HO := Lib.hid hO
      clear hO
      go_wp2_with fail
      refine (implPutB64_any O _ hos).mono ?_
      generalize hR : (⟨(b64 O.data.toList).toArray⟩ : ByteArray) = R
      have HR := Lib.hid hR
      clear hR hback
      rintro e w2 ⟨rfl, hB2⟩
      have B2 := Lib.hid (hB.trans (hB2.mono hsz))
      have hown2 := hown.kept (row := none) ⟨hB2.os, hB2.tape, hB2.output, hB2.size, fun k hk _ => hB2.block k hk⟩ (by cases Value.ownBlock _ <;> simp)
      have hback := rowJ_back (P := Tryd.prog) hown2 22 9 5 Tryd.underlying22 Tryd.underlying5 Tryd.underlying9
      rw [HO.out] at hback
      clear hB2 hown2
      by_cases he : R = s
      · subst he
        have HV : Hid (b64 O.data.toList = R.data.toList) := Lib.hid (by rw [← HR.out])
        go_wp2_with fail
        go_ret2
        exact ⟨.inl ⟨O, rfl, HV.out⟩, B2.out⟩
      · have hne : (R.toList == s.toList) = false := by
          rw [beq_eq_false_iff_ne, Lib.toList_data, Lib.toList_data]
          intro e; apply he
          exact ByteArray.ext (Array.ext' e)
        have hne2 : (R.toList != s.toList) = true := by rw [bne, hne]; rfl
        have HV : Hid (b64 (decS s.data.toList s.data.toList.length).2.2 ≠ s.data.toList) := Lib.hid (by
          rw [HD2.out]
          intro e
          apply he
          rw [← HR.out, HOL.out, e])
        clear he
        go_wp2_with fail
        go_ret2
        exact ⟨.inr ⟨rfl, .inr HV.out⟩, B2.out⟩
end Go.Proofs.YtdgdflbhjbgmdaaDoor
