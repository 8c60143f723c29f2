/-
  Bytes in signs of six bits, read: the walks of spec's l02Sign and GetB64.
-/
import Derived.Test.YtdgdflbhjbgmdaaDoorBsW
import Derived.Lib.Strings
namespace Go.Proofs.YtdgdflbhjbgmdaaDoor
set_option linter.unusedVariables false
open Go.RowKit

/-- The number of a sign. -/
def us (b : UInt8) : Nat := if 65 ≤ b.toNat ∧ b.toNat ≤ 90 then b.toNat - 65 else if 97 ≤ b.toNat ∧ b.toNat ≤ 122 then b.toNat - 71 else if 48 ≤ b.toNat ∧ b.toNat ≤ 57 then b.toNat + 4 else if b.toNat = 43 then 62 else 63
theorem us_sg (k : Nat) (h : k < 64) : us (sg k) = k := by
  have e : ∀ k : Fin 64, us (sg k.val) = k.val := by decide
  exact e ⟨k, h⟩
def IsSign (b : UInt8) : Prop := ∃ k, k < 64 ∧ sg k = b
/-- x is the number of the sign b; -1 where it is none. -/
def SignNo (b : UInt8) (x : Int) : Prop := (IsSign b ∧ us b < 64 ∧ x = (us b : Int)) ∨ (¬ IsSign b ∧ x = -1)
def TellsSign (b : UInt8) (w : World) (e : Ending) (w' : World) : Prop := ∃ x, e = .returned (.int .i64 x) ∧ SignNo b x ∧ w' = w

set_option maxRecDepth 100000 in
set_option maxHeartbeats 1000000 in
theorem sign_any (b : UInt8) (w : World) :
    Calls Tryd.prog 48 #[.int .u8 b.toNat] w (TellsSign b w) := by
  obtain ⟨SA, hSA, hsz64, hsa⟩ := signs_facts
  have SIGNS : Hid (∀ w, Calls Tryd.prog 52 #[] w fun e w' => e = .returned (.string SA) ∧ w' = w) := Lib.hid (fun w => by rw [hSA]; exact signs_any w)
  have HSZ := Lib.hid hsz64
  have HSA := Lib.hid hsa
  clear hSA hsa
  go_enter Tryd.func48, Tryd.ntmps48
  go_wp2
  go_loopw [3] (fun i wr => ∃ k : Nat, k ≤ 64 ∧ i = .int .i64 k ∧ wr = w ∧ Hid (∀ j, j < k → sg j ≠ b)) (fun i _ => 64 - (intOf i).toNat)
  case atStart => exact ⟨0, by omega, rfl, rfl, Lib.hid (fun j hj => by omega)⟩
  case round =>
    obtain ⟨k, hk, rfl, rfl, HNO⟩ := hrel
    by_cases hlt : k < 64
    · have hxs : k < SA.size := by omega
      have hsg := HSA.out k hxs
      by_cases he : sg k = b
      · have t1 : ((SA[k].toNat : Int) == (b.toNat : Int)) = true := by rw [hsg, he, beq_iff_eq]
        have HP : Hid (SignNo b (k : Int)) := Lib.hid (by
          have hu : us b = k := by rw [← he, us_sg k hlt]
          exact .inl ⟨⟨k, hlt, he⟩, by omega, by rw [hu]⟩)
        clear hsg he
        go_wp2_with (go_at_call 52; refine (SIGNS.out _).mono ?_; rintro e w' ⟨rfl, rfl⟩)
        go_ret
        exact ⟨_, rfl, HP.out, rfl⟩
      · have t1 : ((SA[k].toNat : Int) == (b.toNat : Int)) = false := by
          rw [hsg, beq_eq_false_iff_ne]
          intro e; apply he; apply UInt8.toNat_inj.1; omega
        have HN2 : Hid (∀ j, j < k + 1 → sg j ≠ b) := Lib.hid (fun j hj => by
          rcases Nat.lt_or_ge j k with h1 | h1
          · exact HNO.out j h1
          · obtain rfl : j = k := by omega
            exact he)
        clear hsg he
        go_wp2_with (go_at_call 52; refine (SIGNS.out _).mono ?_; rintro e w' ⟨rfl, rfl⟩)
        go_roundw
        case rel => exact ⟨k + 1, by omega, by go_num, trivial, HN2⟩
        case measure => simp [intOf]; omega
    · obtain rfl : k = 64 := by omega
      go_wp2
      go_ret
      exact ⟨_, rfl, .inr ⟨fun ⟨j, h1, h2⟩ => HNO.out j h1 h2, rfl⟩, rfl⟩

/-- Bits that wait, the number, and the bytes that are out behind k signs. -/
def decS (l : List UInt8) : Nat → Nat × Nat × List UInt8
  | 0 => (0, 0, [])
  | k + 1 =>
    let n := ((decS l k).2.1 * 64 + us (l.getD k 0)) % 16777216
    if 2 ≤ (decS l k).1 then ((decS l k).1 - 2, n, (decS l k).2.2 ++ [UInt8.ofNat (n / 2 ^ ((decS l k).1 - 2) % 256)]) else ((decS l k).1 + 6, n, (decS l k).2.2)
theorem decS_len (l : List UInt8) : ∀ k, (decS l k).2.2.length ≤ k := by
  intro k
  induction k with
  | zero => simp [decS]
  | succ k ih => simp only [decS]; split <;> simp <;> omega
theorem decS_bits (l : List UInt8) : ∀ k, (decS l k).1 = 0 ∨ (decS l k).1 = 2 ∨ (decS l k).1 = 4 ∨ (decS l k).1 = 6 := by
  intro k
  induction k with
  | zero => simp [decS]
  | succ k ih => simp only [decS]; split <;> simp only <;> omega
theorem decS_n (l : List UInt8) : ∀ k, (decS l k).2.1 < 16777216 := by
  intro k
  cases k with
  | zero => simp [decS]
  | succ k => simp only [decS]; split <;> exact Nat.mod_lt _ (by decide)
/-- What GetB64 hands back, by how it reckons. -/
def GetsB64 (l : List UInt8) (w : World) (e : Ending) (w' : World) : Prop :=
  ((∃ o : ByteArray, e = .returned (.tuple #[.string o, .bool true]) ∧ b64 o.data.toList = l) ∨
    (e = .returned (.tuple #[.string ⟨#[]⟩, .bool false]) ∧ ((∃ (j : Nat) (b : UInt8), l[j]? = some b ∧ ¬ IsSign b) ∨ b64 (decS l l.length).2.2 ≠ l))) ∧ Below w.heap.size w w'

set_option maxRecDepth 100000 in
set_option maxHeartbeats 2000000 in
theorem specGetB64_any (s : ByteArray) (w : World) (hs : s.size ≤ 67108864) :
    Calls Tryd.prog 35 #[.string s] w (GetsB64 s.data.toList w) := by
  obtain ⟨i0, hi, hz0, hz1, hz2⟩ := info_parts infoByteJ
  go_enter Tryd.func35, Tryd.ntmps35
  go_wp2
  go_loopw [4, 5, 6, 7] (fun o b n i wr => ∃ (k B N : Nat) (L : List UInt8), k ≤ s.size ∧ i = .int .i64 (k : Int) ∧ b = .int .i64 (B : Int) ∧ n = .int .i64 (N : Int) ∧ Hid (decS s.data.toList k = (B, N, L)) ∧ wr.ownsRow w.heap.size 5 1 o L.length (L.map bv) ∧ Below w.heap.size w wr) (fun _ _ _ i _ => s.size - (intOf i).toNat)
  case atStart => exact ⟨0, 0, 0, [], by omega, rfl, rfl, rfl, Lib.hid rfl, World.ownsRow_lit w #[] 0 (Nat.le_refl _) (by decide) rfl, (Below.refl _ _).alloc (Nat.le_refl _) _⟩
  case round =>
    obtain ⟨k, B, N, L, hk, rfl, rfl, rfl, HD, hown, hB⟩ := hrel
    have hL : L.length ≤ k := by have := decS_len s.data.toList k; rw [HD.out] at this; exact this
    have hN : N < 16777216 := by have := decS_n s.data.toList k; rw [HD.out] at this; exact this
    have hBs : B = 0 ∨ B = 2 ∨ B = 4 ∨ B = 6 := by have := decS_bits s.data.toList k; rw [HD.out] at this; exact this
    have hsz := hB.size
    by_cases hlt : k < s.size
    · have hat : s.data.toList[k]? = some s[k] := by rw [List.getElem?_eq_getElem (by simpa using hlt)]; rfl
      have hgd : s.data.toList.getD k 0 = s[k] := by rw [List.getD_eq_getElem?_getD, hat]; rfl
      have HAT := Lib.hid hat
      have HGD := Lib.hid hgd
      clear hat hgd
      go_wp2_with fail
      refine (sign_any s[k] _).mono ?_
      rintro e w2 ⟨x, rfl, hx, rfl⟩
      rcases hx with ⟨hsign, hu, rfl⟩ | ⟨hno, rfl⟩
      · have hstep : decS s.data.toList (k + 1) = if 2 ≤ B then (B - 2, (N * 64 + us s[k]) % 16777216, L ++ [UInt8.ofNat ((N * 64 + us s[k]) % 16777216 / 2 ^ (B - 2) % 256)]) else (B + 6, (N * 64 + us s[k]) % 16777216, L) := by
          simp only [decS, HD.out, HGD.out]
        generalize us s[k] = u at hu hstep
        have hbits : bits .and .i64 ((N : Int) * 64 + (u : Int)) 16777215 = (((N * 64 + u) % 16777216 : Nat) : Int) := by rw [i64_and24]; omega
        generalize hN2 : (N * 64 + u) % 16777216 = N2 at hstep hbits
        have hN2l : N2 < 16777216 := by omega
        have hnext : ∀ (D : Nat) (v' : Value) (w1 : World), w1.ownsRow w.heap.size 5 1 v' (L.length + 1) (L.map bv ++ [.int .u8 ((N2 : Int) / (D : Int) % 256)]) → w1.ownsRow w.heap.size 5 1 v' (L ++ [UInt8.ofNat (N2 / D % 256)]).length ((L ++ [UInt8.ofNat (N2 / D % 256)]).map bv) := fun D v' w1 hr => by
          have e : Value.int .u8 ((N2 : Int) / (D : Int) % 256) = bv (UInt8.ofNat (N2 / D % 256)) := by
            unfold bv
            rw [UInt8.toNat_ofNat']
            congr 1
            rw [Nat.mod_eq_of_lt (Nat.mod_lt _ (by decide))]
            simp
          rw [e] at hr
          simpa using hr
        clear hN2
        rcases hBs with rfl | rfl | rfl | rfl
        · simp only [Nat.reduceLeDiff, if_false] at hstep
          have HST := Lib.hid hstep
          clear hstep
          go_wp2_with fail
          go_roundw
          case rel => exact ⟨k + 1, 6, N2, L, by omega, by go_num, rfl, rfl, HST, hown, hB⟩
          case measure => simp [intOf]; omega
        · simp only [Nat.reduceLeDiff, if_true, Nat.reduceSub, Nat.reducePow] at hstep
          have HST := Lib.hid hstep
          clear hstep
          go_wp2_with (at_builtin; refine wpList_append_own _ rfl _ _ 22 rfl w.heap.size 5 i0 (.int .u8 0) 1 1 Tryd.underlying22 hi hz0 hz1 hz2 rfl (by decide) _ _ _ rfl (hown.alloc _) ⟨w2.heap.size, 0, none⟩ 1 1 [.int .u8 ((N2 : Int) % 256)] rfl rfl (cell_one_new _ _ _) (by simp [Value.oneCell']) (by unfold maxLen; omega) (by omega) (by simp; omega) ?_; intro v' w1 hown2 hgrow _)
          have hB1 : Below w.heap.size w w1 := (hB.alloc hsz _).grown hgrow (by simp; omega) (fun k e => (hown.lt k e).1)
          go_roundw
          case rel => exact ⟨k + 1, 0, N2, L ++ [UInt8.ofNat (N2 / 1 % 256)], by omega, by go_num, rfl, rfl, HST, hnext 1 v' w1 (by simpa using hown2), hB1⟩
          case measure => simp [intOf]; omega
        · simp only [Nat.reduceLeDiff, if_true, Nat.reduceSub, Nat.reducePow] at hstep
          have HST := Lib.hid hstep
          clear hstep
          go_wp2_with (at_builtin; refine wpList_append_own _ rfl _ _ 22 rfl w.heap.size 5 i0 (.int .u8 0) 1 1 Tryd.underlying22 hi hz0 hz1 hz2 rfl (by decide) _ _ _ rfl (hown.alloc _) ⟨w2.heap.size, 0, none⟩ 1 1 [.int .u8 ((N2 : Int) / 4 % 256)] rfl rfl (cell_one_new _ _ _) (by simp [Value.oneCell']) (by unfold maxLen; omega) (by omega) (by simp; omega) ?_; intro v' w1 hown2 hgrow _)
          have hB1 : Below w.heap.size w w1 := (hB.alloc hsz _).grown hgrow (by simp; omega) (fun k e => (hown.lt k e).1)
          go_roundw
          case rel => exact ⟨k + 1, 2, N2, L ++ [UInt8.ofNat (N2 / 4 % 256)], by omega, by go_num, rfl, rfl, HST, hnext 4 v' w1 (by simpa using hown2), hB1⟩
          case measure => simp [intOf]; omega
        · simp only [Nat.reduceLeDiff, if_true, Nat.reduceSub, Nat.reducePow] at hstep
          have HST := Lib.hid hstep
          clear hstep
          go_wp2_with (at_builtin; refine wpList_append_own _ rfl _ _ 22 rfl w.heap.size 5 i0 (.int .u8 0) 1 1 Tryd.underlying22 hi hz0 hz1 hz2 rfl (by decide) _ _ _ rfl (hown.alloc _) ⟨w2.heap.size, 0, none⟩ 1 1 [.int .u8 ((N2 : Int) / 16 % 256)] rfl rfl (cell_one_new _ _ _) (by simp [Value.oneCell']) (by unfold maxLen; omega) (by omega) (by simp; omega) ?_; intro v' w1 hown2 hgrow _)
          have hB1 : Below w.heap.size w w1 := (hB.alloc hsz _).grown hgrow (by simp; omega) (fun k e => (hown.lt k e).1)
          go_roundw
          case rel => exact ⟨k + 1, 4, N2, L ++ [UInt8.ofNat (N2 / 16 % 256)], by omega, by go_num, rfl, rfl, HST, hnext 16 v' w1 (by simpa using hown2), hB1⟩
          case measure => simp [intOf]; omega
      · go_wp2_with fail
        go_ret2
        exact ⟨.inr ⟨rfl, .inl ⟨k, s[k], HAT.out, hno⟩⟩, hB⟩
    · obtain rfl : k = s.size := by omega
      have HD2 : Hid ((decS s.data.toList s.data.toList.length).2.2 = L) := Lib.hid (by
        have : s.data.toList.length = s.size := by simp
        rw [this, HD.out])
      have hback := rowJ_back (P := Tryd.prog) hown 22 9 5 Tryd.underlying22 Tryd.underlying5 Tryd.underlying9
      have HOL : Hid ((⟨L.toArray⟩ : ByteArray).data.toList = L) := Lib.hid rfl
      have hos : (⟨L.toArray⟩ : ByteArray).size ≤ 67108864 := by show L.toArray.size ≤ 67108864; simp; omega
      generalize hO : (⟨L.toArray⟩ : ByteArray) = O at hback HOL hos
      have HO := Lib.hid hO
      clear hO
      go_wp2_with fail
      refine (specPutB64_any O _ hos).mono ?_
      generalize hR : (⟨(b64 O.data.toList).toArray⟩ : ByteArray) = R
      have HR := Lib.hid hR
      clear hR hback
      rintro e w2 ⟨rfl, hB2⟩
      have B2 := Lib.hid (hB.trans (hB2.mono hsz))
      have hown2 := hown.kept (row := none) ⟨hB2.os, hB2.tape, hB2.output, hB2.size, fun k hk _ => hB2.block k hk⟩ (by cases Value.ownBlock _ <;> simp)
      have hback := rowJ_back (P := Tryd.prog) hown2 22 9 5 Tryd.underlying22 Tryd.underlying5 Tryd.underlying9
      rw [HO.out] at hback
      clear hB2 hown2
      by_cases he : R = s
      · subst he
        have HV : Hid (b64 O.data.toList = R.data.toList) := Lib.hid (by rw [← HR.out])
        go_wp2_with fail
        go_ret2
        exact ⟨.inl ⟨O, rfl, HV.out⟩, B2.out⟩
      · have hne : (R.toList == s.toList) = false := by
          rw [beq_eq_false_iff_ne, Lib.toList_data, Lib.toList_data]
          intro e; apply he
          exact ByteArray.ext (Array.ext' e)
        have hne2 : (R.toList != s.toList) = true := by rw [bne, hne]; rfl
        have HV : Hid (b64 (decS s.data.toList s.data.toList.length).2.2 ≠ s.data.toList) := Lib.hid (by
          rw [HD2.out]
          intro e
          apply he
          rw [← HR.out, HOL.out, e])
        clear he
        go_wp2_with fail
        go_ret2
        exact ⟨.inr ⟨rfl, .inr HV.out⟩, B2.out⟩
end Go.Proofs.YtdgdflbhjbgmdaaDoor
