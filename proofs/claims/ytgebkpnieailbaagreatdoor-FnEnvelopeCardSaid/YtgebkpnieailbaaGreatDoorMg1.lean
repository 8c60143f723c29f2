import Derived.WalkKit
import Derived.Lib.Hide
import Derived.Shelf.Abstract
import Derived.Lib.AtoiAll
import Derived.Test.YtgebkpnieailbaaGreatDoorShelf
import Derived.Lib.LaidTab
import Derived.Lib.AppendIntMem
import Derived.Shelf.Strconv.ErrVarAll
import Derived.Shelf.Strings.SlTrimAscii
import Derived.Deep.RegionHeld3
import Derived.Maps.AppendAt
import Derived.RangeFuncBox
import Derived.Maps.OwnIn
import Derived.Deep.RegionLaw
import Derived.RegionTactic
import Derived.Test.YtgebkpnieailbaaGreatDoorMg0
/-
  The walk of impl's all, for every function that tells something of a byte.
-/
namespace Go.Proofs.YtgebkpnieailbaaGreatDoor
set_option linter.unusedVariables false
open Go.RowKit

set_option maxRecDepth 100000 in
set_option maxHeartbeats 400000 in
theorem all_any (K : FuncId) (p : UInt8 → Bool) (hK : Fits K p) (s : ByteArray) (w : World) (hs : s.size ≤ 1000000000) :
    Calls Tryz.prog 129 #[.string s, .func (.func K) #[] #[]] w fun e w' => e = .returned (.bool (s.data.toList.all p)) ∧ w' = w := by
  generalize hH : s.data.toList.all p = H
  have HH := Lib.hid hH
  have FK := Lib.hid hK
  clear hH hK
  go_enter Tryz.func129, Tryz.ntmps129
  go_wp2
  go_loopw [8] (fun i wr => ∃ k : Nat, k ≤ s.size ∧ i = .int .i64 (k : Int) ∧ Hid ((s.data.toList.take k).all p = true) ∧ wr = w) (fun i _ => s.size - (intOf i).toNat)
  case atStart => exact ⟨0, by omega, rfl, Lib.hid rfl, rfl⟩
  case round =>
    obtain ⟨k, hk, rfl, HN, rfl⟩ := hrel
    have hlen : s.data.toList.length = s.size := by simp
    by_cases hlt : k < s.size
    · have AT := Lib.hid (fun w => FK.out.goes s[k] w)
      have EN := Lib.hid (fun w => FK.out.enters #[.int .u8 s[k].toNat] w)
      cases ha : p s[k] with
      | true =>
        rw [ha] at AT
        have HN2 : Hid ((s.data.toList.take (k + 1)).all p = true) := Lib.hid (by rw [all_take p _ k (by omega), HN.out, byte_at s k hlt, ha]; rfl)
        clear ha hlen
        go_wp2_with fail
        rw [EN.out]
        go_wp2_with fail
        refine (AT.out _).mono ?_
        rintro e w1 ⟨rfl, rfl⟩
        go_wp2_with fail
        go_roundw
        case rel => exact ⟨k + 1, by omega, by go_num, HN2, trivial⟩
        case measure => simp [intOf]; omega
      | false =>
        rw [ha] at AT
        have HT : Hid (H = false) := Lib.hid (by
          rw [← HH.out]
          exact all_false p _ k (by omega) (by rw [byte_at s k hlt, ha]))
        clear ha hlen
        go_wp2_with fail
        rw [EN.out]
        go_wp2_with fail
        refine (AT.out _).mono ?_
        rintro e w1 ⟨rfl, rfl⟩
        go_wp2_with fail
        go_ret
        exact ⟨by rw [HT.out]; rfl, rfl⟩
    · have HF : Hid (H = true) := Lib.hid (by
        have hall := HN.out
        rw [List.take_of_length_le (by omega)] at hall
        rw [← HH.out]
        exact hall)
      clear hlen
      go_wp2_with fail
      go_ret
      exact ⟨by rw [HF.out]; rfl, rfl⟩

end Go.Proofs.YtgebkpnieailbaaGreatDoor

/-
  Words: the walk of impl's Quote.
-/
namespace Go.Proofs.YtgebkpnieailbaaGreatDoor
set_option linter.unusedVariables false
open Go.RowKit

set_option maxRecDepth 100000 in
set_option maxHeartbeats 1000000 in
theorem implQuote_any (s : ByteArray) (w : World) (hs : s.size ≤ 67108864) :
    Calls Tryz.prog 41 #[.string s] w fun e w' => e = .returned (.string ⟨(quoteL s.data.toList).toArray⟩) ∧ Below w.heap.size w w' := by
  obtain ⟨i0, hi, hz0, hz1, hz2⟩ := info_parts infoByteJ
  go_enter Tryz.func41, Tryz.ntmps41
  go_wp2
  go_loopw [3, 8] (fun o i wr => ∃ (k : Nat) (L : List UInt8), k ≤ s.size ∧ i = .int .i64 (k : Int) ∧ Hid (L = 34 :: (s.data.toList.take k).flatMap escB) ∧ L.length ≤ 2 * k + 1 ∧ wr.ownsRow w.heap.size 5 1 o L.length (L.map bv) ∧ Below w.heap.size w wr) (fun _ i _ => s.size - (intOf i).toNat)
  case atStart => exact ⟨0, [34], by omega, rfl, Lib.hid rfl, by simp, World.ownsRow_lit w #[.int .u8 34] 1 (Nat.le_refl _) (by decide) rfl, (Below.refl _ _).alloc (Nat.le_refl _) _⟩
  case round =>
    obtain ⟨k, L, hk, rfl, HL, hLl, hown, hB⟩ := hrel
    have hlen : s.data.toList.length = s.size := by simp
    have hsz := hB.size
    by_cases hlt : k < s.size
    · have hst := esc_take s.data.toList k (by omega)
      rw [byte_at s k hlt] at hst
      by_cases h34 : s[k] = 34
      · have t1 : ((s[k].toNat : Int) == 34) = true := by rw [h34]; rfl
        have HST : Hid (L ++ [92] ++ [s[k]] = 34 :: (s.data.toList.take (k + 1)).flatMap escB) := Lib.hid (by
          rw [hst, HL.out]
          unfold escB
          rw [if_pos (.inl h34)]
          simp)
        clear hst h34 hlen
        go_wp2_with (first | (at_builtin; refine wpList_append_own _ rfl _ _ 22 rfl w.heap.size 5 i0 (.int .u8 0) 1 1 Tryz.underlying22 hi hz0 hz1 hz2 rfl (by decide) _ _ _ rfl (hown.alloc _) ⟨wr.heap.size, 0, none⟩ 1 1 [.int .u8 92] rfl rfl (cell_one_new _ _ _) (by simp [Value.oneCell']) (by unfold maxLen; omega) (by omega) (by simp; omega) ?_; intro v2 w2 hO2 hg2 _; have hB2 : Below w.heap.size w w2 := (hB.alloc hsz _).grown hg2 (by simp; omega) (fun k e => (hown.lt k e).1); have hsz2 := hB2.size) | (at_builtin; refine wpList_append_own _ rfl _ _ 22 rfl w.heap.size 5 i0 (.int .u8 0) 1 1 Tryz.underlying22 hi hz0 hz1 hz2 rfl (by decide) _ _ _ rfl (hO2.alloc _) ⟨w2.heap.size, 0, none⟩ 1 1 [.int .u8 (s[k].toNat : Int)] rfl rfl (cell_one_new _ _ _) (by simp [Value.oneCell']) (by unfold maxLen; omega) (by omega) (by simp; omega) ?_; intro v3 w3 hO3 hg3 _; have hB3 : Below w.heap.size w w3 := (hB2.alloc hsz2 _).grown hg3 (by simp; omega) (fun k e => (hO2.lt k e).1)))
        have hrow : w3.ownsRow w.heap.size 5 1 v3 (L ++ [92] ++ [s[k]]).length ((L ++ [92] ++ [s[k]]).map bv) := by
          have h := hO3
          simpa [bv, Nat.add_assoc] using h
        go_roundw
        case rel => exact ⟨k + 1, L ++ [92] ++ [s[k]], by omega, by go_num, HST, by simp; omega, hrow, hB3⟩
        case measure => simp [intOf]; omega
      · by_cases h92 : s[k] = 92
        · have t1 : ((s[k].toNat : Int) == 34) = false := by rw [h92]; rfl
          have t2 : ((s[k].toNat : Int) == 92) = true := by rw [h92]; rfl
          have HST : Hid (L ++ [92] ++ [s[k]] = 34 :: (s.data.toList.take (k + 1)).flatMap escB) := Lib.hid (by
            rw [hst, HL.out]
            unfold escB
            rw [if_pos (.inr h92)]
            simp)
          clear hst h34 h92 hlen
          go_wp2_with (first | (at_builtin; refine wpList_append_own _ rfl _ _ 22 rfl w.heap.size 5 i0 (.int .u8 0) 1 1 Tryz.underlying22 hi hz0 hz1 hz2 rfl (by decide) _ _ _ rfl (hown.alloc _) ⟨wr.heap.size, 0, none⟩ 1 1 [.int .u8 92] rfl rfl (cell_one_new _ _ _) (by simp [Value.oneCell']) (by unfold maxLen; omega) (by omega) (by simp; omega) ?_; intro v2 w2 hO2 hg2 _; have hB2 : Below w.heap.size w w2 := (hB.alloc hsz _).grown hg2 (by simp; omega) (fun k e => (hown.lt k e).1); have hsz2 := hB2.size) | (at_builtin; refine wpList_append_own _ rfl _ _ 22 rfl w.heap.size 5 i0 (.int .u8 0) 1 1 Tryz.underlying22 hi hz0 hz1 hz2 rfl (by decide) _ _ _ rfl (hO2.alloc _) ⟨w2.heap.size, 0, none⟩ 1 1 [.int .u8 (s[k].toNat : Int)] rfl rfl (cell_one_new _ _ _) (by simp [Value.oneCell']) (by unfold maxLen; omega) (by omega) (by simp; omega) ?_; intro v3 w3 hO3 hg3 _; have hB3 : Below w.heap.size w w3 := (hB2.alloc hsz2 _).grown hg3 (by simp; omega) (fun k e => (hO2.lt k e).1)))
          have hrow : w3.ownsRow w.heap.size 5 1 v3 (L ++ [92] ++ [s[k]]).length ((L ++ [92] ++ [s[k]]).map bv) := by
            have h := hO3
            simpa [bv, Nat.add_assoc] using h
          go_roundw
          case rel => exact ⟨k + 1, L ++ [92] ++ [s[k]], by omega, by go_num, HST, by simp; omega, hrow, hB3⟩
          case measure => simp [intOf]; omega
        · have t1 : ((s[k].toNat : Int) == 34) = false := ne_byte (b := 34) h34
          have t2 : ((s[k].toNat : Int) == 92) = false := ne_byte (b := 92) h92
          have HST : Hid (L ++ [s[k]] = 34 :: (s.data.toList.take (k + 1)).flatMap escB) := Lib.hid (by
            rw [hst, HL.out]
            unfold escB
            rw [if_neg (by simp [h34, h92])]
            simp)
          clear hst h34 h92 hlen
          go_wp2_with (first | (at_builtin; refine wpList_append_own _ rfl _ _ 22 rfl w.heap.size 5 i0 (.int .u8 0) 1 1 Tryz.underlying22 hi hz0 hz1 hz2 rfl (by decide) _ _ _ rfl (hown.alloc _) ⟨wr.heap.size, 0, none⟩ 1 1 [.int .u8 (s[k].toNat : Int)] rfl rfl (cell_one_new _ _ _) (by simp [Value.oneCell']) (by unfold maxLen; omega) (by omega) (by simp; omega) ?_; intro v3 w3 hO3 hg3 _; have hB3 : Below w.heap.size w w3 := (hB.alloc hsz _).grown hg3 (by simp; omega) (fun k e => (hown.lt k e).1)))
          have hrow : w3.ownsRow w.heap.size 5 1 v3 (L ++ [s[k]]).length ((L ++ [s[k]]).map bv) := by
            have h := hO3
            simpa [bv] using h
          go_roundw
          case rel => exact ⟨k + 1, L ++ [s[k]], by omega, by go_num, HST, by simp; omega, hrow, hB3⟩
          case measure => simp [intOf]; omega
    · have HQ : Hid (L ++ [34] = quoteL s.data.toList) := Lib.hid (by
        rw [HL.out, List.take_of_length_le (by omega)]
        rfl)
      clear hlen
      go_wp2_with (first | (at_builtin; refine wpList_append_own _ rfl _ _ 22 rfl w.heap.size 5 i0 (.int .u8 0) 1 1 Tryz.underlying22 hi hz0 hz1 hz2 rfl (by decide) _ _ _ rfl (hown.alloc _) ⟨wr.heap.size, 0, none⟩ 1 1 [.int .u8 34] rfl rfl (cell_one_new _ _ _) (by simp [Value.oneCell']) (by unfold maxLen; omega) (by omega) (by simp; omega) ?_; intro v3 w3 hO3 hg3 _; have hB3 : Below w.heap.size w w3 := (hB.alloc hsz _).grown hg3 (by simp; omega) (fun k e => (hown.lt k e).1)))
      have hrow : w3.ownsRow w.heap.size 5 1 v3 (L ++ [34]).length ((L ++ [34]).map bv) := by
        have h := hO3
        simpa [bv] using h
      have hback := rowJ_back (P := Tryz.prog) hrow 22 9 5 Tryz.underlying22 Tryz.underlying5 Tryz.underlying9
      rw [hback]
      go_wp2_with fail
      go_ret
      exact ⟨by rw [← HQ.out]; rfl, hB3⟩

end Go.Proofs.YtgebkpnieailbaaGreatDoor

/-
  Plain: decimal numerals read.
-/
namespace Go.Proofs.YtgebkpnieailbaaGreatDoor
set_option linter.unusedVariables false
open Go.RowKit

def isDig (c : UInt8) : Prop := 48 ≤ c.toNat ∧ c.toNat ≤ 57
def decStep (a : Nat) (c : UInt8) : Nat := a * 10 + (c.toNat - 48)
def decVal (acc : Nat) (l : List UInt8) : Nat := l.foldl decStep acc
theorem decVal_nil (acc : Nat) : decVal acc [] = acc := rfl
theorem decVal_cons (acc : Nat) (c : UInt8) (r : List UInt8) : decVal acc (c :: r) = decVal (decStep acc c) r := by simp only [decVal, List.foldl_cons]
theorem val_snoc (c : UInt8) (l : List UInt8) (acc : Nat) : decVal acc (l ++ [c]) = decStep (decVal acc l) c := by
  unfold decVal
  rw [List.foldl_append]
  rfl
theorem val_lt : ∀ (l : List UInt8) (acc : Nat), (∀ c ∈ l, isDig c) → decVal acc l < (acc + 1) * 10 ^ l.length
  | [], acc, _ => by rw [decVal_nil]; simp
  | c :: r, acc, h => by
    have hc := h c (by simp)
    unfold isDig at hc
    have := val_lt r (acc * 10 + (c.toNat - 48)) (fun d hd => h d (by simp [hd]))
    rw [decVal_cons, List.length_cons, Nat.pow_succ]
    refine Nat.lt_of_lt_of_le this ?_
    have : acc * 10 + (c.toNat - 48) + 1 ≤ (acc + 1) * 10 := by omega
    calc (acc * 10 + (c.toNat - 48) + 1) * 10 ^ r.length ≤ ((acc + 1) * 10) * 10 ^ r.length := Nat.mul_le_mul_right _ this
      _ = (acc + 1) * (10 ^ r.length * 10) := by rw [Nat.mul_assoc, Nat.mul_comm 10]
theorem val_small {l : List UInt8} (h : ∀ c ∈ l, isDig c) (hl : l.length ≤ 9) : decVal 0 l ≤ 999999999 := by
  have h1 := val_lt l 0 h
  have h2 : 10 ^ l.length ≤ 10 ^ 9 := Nat.pow_le_pow_right (by decide) hl
  have h3 : (10 : Nat) ^ 9 = 1000000000 := by decide
  omega

theorem dig_byte (d : Nat) (h : d < 10) : (UInt8.ofNat (48 + d)).toNat = 48 + d := by
  rw [UInt8.toNat_ofNat', Nat.mod_eq_of_lt (by omega)]
theorem dec_dig : ∀ (n : Nat), (∀ c ∈ Lib.decDigits n, isDig c) ∧ decVal 0 (Lib.decDigits n) = n := by
  intro n
  induction n using Nat.strongRecOn with
  | _ n ih =>
    rw [Lib.decDigits]
    by_cases h : n < 10
    · rw [dif_pos h]
      refine ⟨fun c hc => ?_, ?_⟩
      · obtain rfl : c = UInt8.ofNat (48 + n) := by simpa using hc
        unfold isDig; rw [dig_byte n h]; omega
      · rw [decVal_cons, decVal_nil]; unfold decStep; rw [dig_byte n h]; omega
    · rw [dif_neg h]
      obtain ⟨h1, h2⟩ := ih (n / 10) (by omega)
      refine ⟨fun c hc => ?_, ?_⟩
      · rcases List.mem_append.1 hc with hc | hc
        · exact h1 c hc
        · obtain rfl : c = UInt8.ofNat (48 + n % 10) := by simpa using hc
          unfold isDig; rw [dig_byte _ (by omega)]; omega
      · rw [val_snoc, h2]; unfold decStep; rw [dig_byte _ (by omega)]; omega
theorem dec_len : ∀ (k n : Nat), n < 10 ^ (k + 1) → (Lib.decDigits n).length ≤ k + 1 := by
  intro k
  induction k with
  | zero => intro n h; rw [Lib.decDigits, dif_pos (by omega)]; simp
  | succ k ih =>
    intro n h
    rw [Lib.decDigits]
    by_cases h10 : n < 10
    · rw [dif_pos h10]; simp
    · rw [dif_neg h10, List.length_append]
      have : n / 10 < 10 ^ (k + 1) := by
        rw [Nat.pow_succ] at h
        omega
      have := ih _ this
      simp
      omega
theorem dec_pos (n : Nat) : 0 < (Lib.decDigits n).length := by
  rw [Lib.decDigits]
  split <;> simp

/-- The texts that are read. -/
def goodDec (l : List UInt8) (n : Nat) : Prop := n ≤ 999999999 ∧ Lib.decDigits n = l
theorem goodDec_facts {l : List UInt8} {n : Nat} (h : goodDec l n) : (∀ c ∈ l, isDig c) ∧ decVal 0 l = n ∧ l.length ≤ 9 ∧ 0 < l.length := by
  obtain ⟨h1, rfl⟩ := h
  obtain ⟨a, b⟩ := dec_dig n
  exact ⟨a, b, dec_len 8 n (by have : (10 : Nat) ^ (8 + 1) = 1000000000 := by decide
                               omega), dec_pos n⟩

theorem parse_ok : ∀ (l : List UInt8) (acc : Nat), (∀ c ∈ l, isDig c) → (acc + 1) * 10 ^ l.length ≤ 9223372036854775807 → Lib.parseUint10 acc l = .ok (decVal acc l)
  | [], acc, _, _ => rfl
  | c :: r, acc, h, hb => by
    have hc := h c (by simp)
    unfold isDig at hc
    rw [List.length_cons, Nat.pow_succ] at hb
    have hp : 1 ≤ 10 ^ r.length := Nat.pos_of_ne_zero (by simp)
    have h1 : (acc * 10 + (c.toNat - 48) + 1) * 10 ^ r.length ≤ 9223372036854775807 := by
      have : acc * 10 + (c.toNat - 48) + 1 ≤ (acc + 1) * 10 := by omega
      calc (acc * 10 + (c.toNat - 48) + 1) * 10 ^ r.length ≤ ((acc + 1) * 10) * 10 ^ r.length := Nat.mul_le_mul_right _ this
        _ = (acc + 1) * (10 ^ r.length * 10) := by rw [Nat.mul_assoc, Nat.mul_comm 10]
        _ ≤ _ := hb
    have h2 : acc * 10 + (c.toNat - 48) + 1 ≤ 9223372036854775807 := Nat.le_trans (Nat.le_mul_of_pos_right _ hp) h1
    rw [Lib.parseUint10, if_pos hc, if_neg (by omega), if_neg (by omega), decVal_cons]
    exact parse_ok r _ (fun d hd => h d (by simp [hd])) h1
theorem atoi_good {l : List UInt8} {n : Nat} (h : goodDec l n) : Lib.atoiAll l = .ok (n : Int) := by
  obtain ⟨h1, h2, h3, h4⟩ := goodDec_facts h
  have h9 : 10 ^ l.length ≤ 10 ^ 9 := Nat.pow_le_pow_right (by decide) h3
  have h10 : (10 : Nat) ^ 9 = 1000000000 := by decide
  have hp := parse_ok l 0 h1 (by omega)
  have hn := h.1
  rw [h2] at hp
  cases l with
  | nil => simp at h4
  | cons c r =>
    have hc := h1 c (by simp)
    unfold isDig at hc
    have hs : ¬ (c.toNat = 43 ∨ c.toNat = 45) := by omega
    unfold Lib.atoiAll Lib.parseMag
    simp only [if_neg hs, hp, if_neg (show ¬ (c :: r = []) by simp)]
    have h45 : ¬ c.toNat = 45 := by omega
    simp only [h45, not_false_eq_true, true_and, false_and, if_false]
    rw [if_neg (by omega)]
theorem not_good_itoa {l : List UInt8} (h : ¬ ∃ n, goodDec l n) (v : Int) (h0 : 0 ≤ v) (h1 : v ≤ 999999999) : Lib.itoa v ≠ l := by
  intro e
  apply h
  refine ⟨v.toNat, by omega, ?_⟩
  unfold Lib.itoa at e
  rw [if_neg (by omega)] at e
  exact e
end Go.Proofs.YtgebkpnieailbaaGreatDoor

/-
  The walks of impl.DecText, and of ReadDec.
-/
namespace Go.Proofs.YtgebkpnieailbaaGreatDoor
set_option linter.unusedVariables false
open Go.RowKit

/-- The library's table of tens, and its two errors, as they are laid. -/
def Tens (w : World) : Prop := Lib.TabIs Tryz.prog w "internal/strconv.uint64pow10" .u64 Lib.pow10Tab
structure Errs (w : World) : Prop where
  syn : ∃ tp p, w.var? Tryz.prog "strconv.ErrSyntax" = some #[.iface tp p]
  rng : ∃ tp p, w.var? Tryz.prog "strconv.ErrRange" = some #[.iface tp p]

theorem var_below {w w' : World} {B g : Nat} {n : String} (hg : Tryz.prog.globalNamed n = some g) (hb : Below B w w') (hB : g < B) : w'.var? Tryz.prog n = w.var? Tryz.prog n := by
  unfold World.var?
  simp only [hg, Option.bind_some, hb.block g hB]

theorem var_lt {w : World} {g : Nat} {n : String} {cs : Array Value} (hg : Tryz.prog.globalNamed n = some g) (h : w.var? Tryz.prog n = some cs) : g < w.heap.size := by
  unfold World.var? at h
  simp only [hg, Option.bind_some] at h
  rcases Nat.lt_or_ge g w.heap.size with h' | h'
  · exact h'
  · simp [Array.getElem?_eq_none h'] at h

set_option maxHeartbeats 400000 in
theorem implDec_any (n : Int) (w : World) (h1 : -9223372036854775808 ≤ n) (h2 : n ≤ 9223372036854775807) (ht : Tens w) :
    Calls Tryz.prog 39 #[.int .i64 n] w fun e w' => e = .returned (.string ⟨(Lib.itoa n).toArray⟩) ∧ Below w.heap.size w w' := by
  have HT := Lib.hid ht
  clear ht
  go_enter Tryz.func39, Tryz.ntmps39
  go_wp2_with (go_at_call 90; refine (Tryz.strconv_Itoa n h1 h2 _ HT.out).mono ?_; rintro e w' ⟨rfl, k, os, rfl⟩)
  go_ret
  exact ⟨rfl, Lib.below_grow _ _ (Nat.le_refl _) _ _⟩
end Go.Proofs.YtgebkpnieailbaaGreatDoor

/-
  Strings: the walks of impl's inQuoted, inLiteral, PutString, NString.
-/
namespace Go.Proofs.YtgebkpnieailbaaGreatDoor
set_option linter.unusedVariables false
open Go.RowKit

set_option maxHeartbeats 400000 in
theorem inQuoted_any (b : UInt8) (w : World) :
    Calls Tryz.prog 143 #[.int .u8 b.toNat] w fun e w' => e = .returned (.bool (plainB b)) ∧ w = w' := by
  unfold plainB
  by_cases h1 : 32 ≤ b.toNat
  · have g1 : decide ((32 : Int) ≤ (b.toNat : Int)) = true := by simp; omega
    by_cases h2 : b.toNat ≤ 126
    · rw [decide_eq_true (And.intro h1 h2)]
      have g2 : decide ((b.toNat : Int) < 127) = true := by simp; omega
      clear h1 h2
      go_enter Tryz.func143, Tryz.ntmps143
      go_wp2_with fail
      go_ret
      exact ⟨rfl, rfl⟩
    · rw [decide_eq_false (fun h => h2 h.2)]
      have g2 : decide ((b.toNat : Int) < 127) = false := by simp; omega
      clear h1 h2
      go_enter Tryz.func143, Tryz.ntmps143
      go_wp2_with fail
      go_ret
      exact ⟨rfl, rfl⟩
  · rw [decide_eq_false (fun h => h1 h.1)]
    have g1 : decide ((32 : Int) ≤ (b.toNat : Int)) = false := by simp; omega
    clear h1
    go_enter Tryz.func143, Tryz.ntmps143
    go_wp2_with fail
    go_ret
    exact ⟨rfl, rfl⟩
theorem fits_inQuoted : Fits 143 plainB := ⟨inQuoted_any, enters_of Tryz.func143 (by kernel_rfl) rfl⟩

set_option maxHeartbeats 400000 in
theorem inLiteral_any (s : ByteArray) (w : World) :
    Calls Tryz.prog 142 #[.string s] w fun e w' => e = .returned (.bool (litOk s.data.toList)) ∧ w = w' := by
  unfold litOk
  have IB := Lib.hid (fun w => Tryz.strings_IndexByte s 0 w)
  have ih := index_has s.data.toList 0
  have hl : s.data.toList.length = s.size := by simp
  rw [show (0 : Int).toNat.toUInt8 = (0 : UInt8) from rfl] at IB
  generalize Lib.indexByte s.data.toList 0 = I at IB ih
  generalize hasL 0 s.data.toList = v at ih
  have IH := Lib.hid ih
  clear ih
  rw [hl]
  clear hl
  by_cases h2 : s.size ≤ 400
  · rw [decide_eq_true h2]
    have g2 : decide ((s.size : Int) ≤ 400) = true := by simp; omega
    clear h2
    go_enter Tryz.func142, Tryz.ntmps142
    go_wp2_with fail
    refine (IB.out _).mono ?_
    rintro e w1 ⟨rfl, rfl⟩
    go_wp2_with fail
    go_ret
    exact ⟨by rw [IH.out]; rfl, rfl⟩
  · rw [decide_eq_false h2]
    have g2 : decide ((s.size : Int) ≤ 400) = false := by simp; omega
    clear h2
    go_enter Tryz.func142, Tryz.ntmps142
    go_wp2_with fail
    go_ret
    exact ⟨rfl, rfl⟩

set_option maxRecDepth 100000 in
set_option maxHeartbeats 1000000 in
theorem implPutString_any (s : ByteArray) (w : World) (hs : s.size ≤ 67108864) (ht : Tens w) :
    Calls Tryz.prog 88 #[.string s] w fun e w' => e = .returned (.string ⟨(putStr s.data.toList).toArray⟩) ∧ Below w.heap.size w w' := by
  have hlen : s.data.toList.length = s.size := by simp
  have HA := Lib.hid (fun w => inLiteral_any s w)
  have PL := Lib.hid (fun w => all_any 143 plainB fits_inQuoted s w (by omega))
  have QU := Lib.hid (fun w => implQuote_any s w hs)
  have DE := Lib.hid (fun w ht => implDec_any (s.size : Int) w (by omega) (by omega) ht)
  have HT := Lib.hid ht
  clear ht
  have hlo : litOk s.data.toList = (decide (s.size ≤ 400) && !hasL 0 s.data.toList) := by unfold litOk; rw [hlen]
  rw [hlo] at HA
  clear hlo
  cases h0 : hasL 0 s.data.toList with
  | true =>
    have hp : putStr s.data.toList = [] := by unfold putStr; rw [if_pos (.inl h0)]
    rw [hp]
    rw [h0, show (decide (s.size ≤ 400) && !true) = false by simp] at HA
    clear hp h0
    go_enter Tryz.func88, Tryz.ntmps88
    go_wp2_with fail
    refine (HA.out _).mono ?_
    rintro e w1 ⟨rfl, rfl⟩
    go_wp2_with fail
    go_ret
    exact ⟨rfl, Below.refl _ _⟩
  | false =>
    rw [h0] at HA
    by_cases h4 : 400 < s.size
    · have hp : putStr s.data.toList = [] := by unfold putStr; rw [if_pos (.inr (by omega))]
      rw [hp]
      rw [show (decide (s.size ≤ 400) && !false) = false by simp; omega] at HA
      clear hp h0 h4
      go_enter Tryz.func88, Tryz.ntmps88
      go_wp2_with fail
      refine (HA.out _).mono ?_
      rintro e w1 ⟨rfl, rfl⟩
      go_wp2_with fail
      go_ret
      exact ⟨rfl, Below.refl _ _⟩
    · rw [show (decide (s.size ≤ 400) && !false) = true by simp; omega] at HA
      have hb0 : ¬ (hasL 0 s.data.toList = true ∨ 400 < s.data.toList.length) := by rw [h0]; simp; omega
      have LIT : Hid (¬ (s.data.toList.length ≤ 60 ∧ plainAll s.data.toList = true) → (⟨(putStr s.data.toList).toArray⟩ : ByteArray) = ⟨#[123]⟩ ++ ⟨(Lib.itoa (s.size : Int)).toArray⟩ ++ ⟨#[125, 13, 10]⟩ ++ s) := Lib.hid (fun hn => by
        unfold putStr
        rw [if_neg hb0, if_neg hn, hlen]
        apply ByteArray.ext
        apply Array.ext'
        simp [ByteArray.data_append])
      have hil := itoa_len s.size hs
      have hds : (⟨(Lib.itoa (s.size : Int)).toArray⟩ : ByteArray).size ≤ 21 := by show (Lib.itoa (s.size : Int)).toArray.size ≤ 21; simpa using hil
      have z1 : (⟨#[123]⟩ : ByteArray).size = 1 := rfl
      have z3 : (⟨#[125, 13, 10]⟩ : ByteArray).size = 3 := rfl
      by_cases h6 : s.size ≤ 60
      · have g6 : decide ((s.size : Int) ≤ 60) = true := by simp; omega
        cases hpl : plainAll s.data.toList with
        | true =>
          have hp : putStr s.data.toList = quoteL s.data.toList := by unfold putStr; rw [if_neg hb0, if_pos ⟨by omega, hpl⟩]
          rw [hp]
          rw [show s.data.toList.all plainB = true from hpl] at PL
          clear hp h0 h4 hb0 hpl LIT
          go_enter Tryz.func88, Tryz.ntmps88
          go_wp2_with fail
          refine (HA.out _).mono ?_
          rintro e w1 ⟨rfl, rfl⟩
          go_wp2_with fail
          refine (PL.out _).mono ?_
          rintro e w2 ⟨rfl, rfl⟩
          go_wp2_with fail
          refine (QU.out _).mono ?_
          rintro e w3 ⟨rfl, hB3⟩
          go_wp2_with fail
          go_ret
          exact ⟨rfl, hB3⟩
        | false =>
          rw [LIT.out (by rw [hpl]; simp)]
          rw [show s.data.toList.all plainB = false from hpl] at PL
          generalize (⟨(Lib.itoa (s.size : Int)).toArray⟩ : ByteArray) = D at DE hds ⊢
          clear h0 h4 hb0 hpl LIT hil
          go_enter Tryz.func88, Tryz.ntmps88
          go_wp2_with fail
          refine (HA.out _).mono ?_
          rintro e w1 ⟨rfl, rfl⟩
          go_wp2_with fail
          refine (PL.out _).mono ?_
          rintro e w2 ⟨rfl, rfl⟩
          go_wp2_with fail
          refine (DE.out _ HT.out).mono ?_
          rintro e w3 ⟨rfl, hB3⟩
          go_wp2_with fail
          go_ret
          exact ⟨rfl, hB3⟩
      · have g6 : decide ((s.size : Int) ≤ 60) = false := by simp; omega
        rw [LIT.out (by rw [hlen]; omega)]
        generalize (⟨(Lib.itoa (s.size : Int)).toArray⟩ : ByteArray) = D at DE hds ⊢
        clear h0 h4 hb0 LIT hil
        go_enter Tryz.func88, Tryz.ntmps88
        go_wp2_with fail
        refine (HA.out _).mono ?_
        rintro e w1 ⟨rfl, rfl⟩
        go_wp2_with fail
        refine (DE.out _ HT.out).mono ?_
        rintro e w3 ⟨rfl, hB3⟩
        go_wp2_with fail
        go_ret
        exact ⟨rfl, hB3⟩

theorem Tens.lt {w : World} (h : Tens w) : 1 < w.heap.size := var_lt (n := "internal/strconv.uint64pow10") (by kernel_rfl) h
theorem Tens.later {w w' : World} (h : Tens w) (hb : Below w.heap.size w w') : Tens w' := (var_below (n := "internal/strconv.uint64pow10") (g := 1) (by kernel_rfl) hb h.lt).trans h
end Go.Proofs.YtgebkpnieailbaaGreatDoor

/-
  Strings that may not be there: the walk of impl's NString.
-/
namespace Go.Proofs.YtgebkpnieailbaaGreatDoor
set_option linter.unusedVariables false
open Go.RowKit

set_option maxRecDepth 100000 in
set_option maxHeartbeats 400000 in
theorem implNString_any (s : ByteArray) (b : Bool) (w : World) (hs : s.size ≤ 67108864) (ht : Tens w) :
    Calls Tryz.prog 122 #[.string s, .bool b] w fun e w' => e = .returned (.string ⟨(nstr b s.data.toList).toArray⟩) ∧ Below w.heap.size w w' := by
  have PS := Lib.hid (fun w ht => implPutString_any s w hs ht)
  have HT := Lib.hid ht
  clear ht
  cases b with
  | false =>
    go_enter Tryz.func122, Tryz.ntmps122
    go_wp2_with fail
    go_ret
    exact ⟨rfl, Below.refl _ _⟩
  | true =>
    go_enter Tryz.func122, Tryz.ntmps122
    go_wp2_with fail
    refine (PS.out _ HT.out).mono ?_
    rintro e w2 ⟨rfl, hB2⟩
    go_wp2_with fail
    go_ret
    exact ⟨rfl, hB2⟩
end Go.Proofs.YtgebkpnieailbaaGreatDoor

/-
  Addresses: the walk of impl's AddrText.
-/
namespace Go.Proofs.YtgebkpnieailbaaGreatDoor
set_option linter.unusedVariables false
open Go.RowKit

/-- What a round keeps: the row, what was there ahead, and the round's own address. -/
structure AtW (w : World) (xb : Nat) (nm bx ho : ByteArray) (W : World) (v : Value) (L : List UInt8) (M : Nat) : Prop where
  row : W.ownsRow w.heap.size 5 1 v L.length (L.map bv)
  below : Below w.heap.size w W
  rec' : W.heap[xb]? = some (.cells #[.string nm, .string bx, .string ho] 195 (0, 0))
  len : L.length ≤ M
theorem AtW.byte {w : World} {xb : Nat} {nm bx ho : ByteArray} {W w1 : World} {v v' : Value} {L : List UInt8} {M : Nat} {tmp : Obj} (h : AtW w xb nm bx ho W v L M) (b : UInt8)
    (hown : w1.ownsRow w.heap.size 5 1 v' (L.length + 1) (L.map bv ++ [.int .u8 (b.toNat : Int)])) (hg : (W.alloc tmp).grownBy w1 v.ownBlock) : AtW w xb nm bx ho w1 v' (L ++ [b]) (M + 1) := by
  have hs := h.below.size
  refine ⟨by simpa [bv] using hown, app_below (h.below.alloc hs tmp) (h.row.alloc tmp) hg, two_kept (h.row.alloc tmp) hg ((Below.heap_alloc W tmp xb (heap_lt h.rec')).trans h.rec') (by decide), ?_⟩
  have := h.len
  simp
  omega
theorem AtW.str {w : World} {xb : Nat} {nm bx ho : ByteArray} {W w1 : World} {v v' : Value} {L : List UInt8} {M : Nat} (h : AtW w xb nm bx ho W v L M) (s : ByteArray) (K : Nat) (hK : s.size ≤ K)
    (hrow : w1.ownsRow w.heap.size 5 1 v' (L ++ s.data.toList).length ((L ++ s.data.toList).map bv)) (hg : W.grownBy w1 v.ownBlock) : AtW w xb nm bx ho w1 v' (L ++ s.data.toList) (M + K) := by
  refine ⟨hrow, app_below h.below h.row hg, two_kept h.row hg h.rec' (by decide), ?_⟩
  have := h.len
  rw [List.length_append, show s.data.toList.length = s.size by simp]
  omega
theorem AtW.call {w : World} {xb : Nat} {nm bx ho : ByteArray} {W w1 : World} {v : Value} {L : List UInt8} {M : Nat} (h : AtW w xb nm bx ho W v L M) (hB : Below W.heap.size W w1) : AtW w xb nm bx ho w1 v L M :=
  ⟨row_below h.row hB, h.below.trans (hB.mono h.below.size), (hB.block _ (heap_lt h.rec')).trans h.rec', h.len⟩
theorem cell_one_at (w : World) (v : Value) (T : TypeId) (g : Nat) (hg : g = w.heap.size) : ∀ j u, [v][j]? = some u → (w.alloc (.cells #[v] T)).cell? ((⟨g, 0, none⟩ : Addr).add j) = some u := by
  subst hg
  exact cell_one_new w v T
theorem nil5 : (⟨#[32, 78, 73, 76, 32]⟩ : ByteArray).size ≤ 5 := by decide
theorem addr_list (L : List UInt8) (a : Ad) (S1 S2 S3 : ByteArray) (h1 : S1 = mkB (nstr (!a.name.isEmpty) a.name)) (h2 : S2 = mkB (putStr a.box)) (h3 : S3 = mkB (putStr a.host)) :
    L ++ [40] ++ S1.data.toList ++ (⟨#[32, 78, 73, 76, 32]⟩ : ByteArray).data.toList ++ S2.data.toList ++ [32] ++ S3.data.toList ++ [41] = L ++ addrT a := by
  subst h1 h2 h3
  simp [addrT, mkB]

set_option maxRecDepth 100000 in
set_option maxHeartbeats 4000000 in
theorem implAddrText_any (v : Value) (l : List Ad) (w : World) (hv : AdsAt w v l) (hm : adSizes l ≤ 1048576) (hl : l.length ≤ 1048576) (ht : Tens w) :
    Calls Tryz.prog 121 #[v] w fun e w' => e = .returned (.string (mkB (addrTs l))) ∧ Below w.heap.size w w' := by
  obtain ⟨i0, hi, hz0, hz1, hz2⟩ := info_parts infoByteJ
  obtain ⟨p, cap, rfl⟩ := hv.slice
  have HV := Lib.hid hv
  have hfl := flat_len l (by omega)
  have HFL : Hid ((l.flatMap addrT).length ≤ 110000000) := Lib.hid (by omega)
  have HM := Lib.hid hm
  have TE := Lib.hid (fun W (h : Below w.heap.size w W) => ht.later h)
  clear hv hm hfl ht
  by_cases h0 : l.length = 0
  · obtain rfl : l = [] := List.eq_nil_of_length_eq_zero h0
    clear h0
    go_enter Tryz.func121, Tryz.ntmps121
    go_wp2
    go_ret
    exact ⟨rfl, Below.refl _ _⟩
  · have g0 : ((l.length : Int) == 0) = false := by rw [beq_eq_false_iff_ne]; omega
    have hA : addrTs l = 40 :: l.flatMap addrT ++ [41] := by unfold addrTs; rw [if_neg (by intro h; rw [h] at h0; simp at h0)]
    rw [hA]
    have hpos : 0 < l.length := Nat.pos_of_ne_zero h0
    obtain ⟨g, off, c2, hgv, hg, hc⟩ : ∃ g off c2, Value.slice p l.length cap = .slice (some ⟨g, off, none⟩) l.length c2 ∧ g < w.heap.size ∧ ∀ k, (h : k < l.length) → w.cell? ⟨g, off + k * 3, none⟩ = some (.string (mkB l[k].name)) ∧ w.cell? ⟨g, off + k * 3 + 1, none⟩ = some (.string (mkB l[k].box)) ∧ w.cell? ⟨g, off + k * 3 + 2, none⟩ = some (.string (mkB l[k].host)) := by
      rcases HV.out with ⟨h, _⟩ | h
      · rw [h] at hpos; simp at hpos
      · exact h
    injection hgv with hgv1 hgv2 hgv3
    subst hgv1 hgv3
    have HC := Lib.hid hc
    clear hc h0 hA HV
    go_enter Tryz.func121, Tryz.ntmps121
    go_wp2
    go_loopw [3, 12] (fun o i wr => ∃ (k : Nat) (L : List UInt8), k ≤ l.length ∧ i = .int .i64 (k : Int) ∧ Hid (L = 40 :: (l.take k).flatMap addrT) ∧ wr.ownsRow w.heap.size 5 1 o L.length (L.map bv) ∧ Below w.heap.size w wr) (fun _ i _ => l.length - (intOf i).toNat)
    case atStart => exact ⟨0, [40], Nat.zero_le _, rfl, Lib.hid (by simp), World.ownsRow_lit w #[.int .u8 40] 1 (Nat.le_refl _) (by decide) rfl, (Below.refl _ _).alloc (Nat.le_refl _) _⟩
    case round =>
      obtain ⟨k, L, hk, rfl, HL, hown, hB⟩ := hrel
      have hsz := hB.size
      by_cases hlt : k < l.length
      · have g1 : decide ((k : Int) < (l.length : Int)) = true := by simp; omega
        have i1 : (0 : Int) ≤ (k : Int) := by omega
        have i2 : (k : Int) < (l.length : Int) := by omega
        obtain ⟨x1, x2, x3⟩ := HC.out k hlt
        have htk := flat_take l k hlt
        have hle := flat_take_le l (k + 1)
        have hsm := adSizes_mem (List.getElem_mem hlt)
        have hM := HM.out
        have hF := HFL.out
        have hos : L.length = ((l.take k).flatMap addrT).length + 1 := by rw [HL.out]; simp
        generalize l[k] = a at x1 x2 x3 htk hsm
        rw [htk, List.length_append] at hle
        have HN : Hid (L ++ addrT a = 40 :: (l.take (k + 1)).flatMap addrT) := Lib.hid (by rw [HL.out, htk]; rfl)
        have n1 := nstr_len (!a.name.isEmpty) a.name (by unfold adSize at hsm; omega)
        have n2 := putStr_len a.box (by unfold adSize at hsm; omega)
        have n3 := putStr_len a.host (by unfold adSize at hsm; omega)
        have NE := fun w ht => implNString_any (mkB a.name) (!a.name.isEmpty) w (by rw [mkB_size]; unfold adSize at hsm; omega) ht
        have PB := Lib.hid (fun w ht => implPutString_any (mkB a.box) w (by rw [mkB_size]; unfold adSize at hsm; omega) ht)
        have PH := Lib.hid (fun w ht => implPutString_any (mkB a.host) w (by rw [mkB_size]; unfold adSize at hsm; omega) ht)
        rw [mkB_list] at PB PH
        have NEH := Lib.hid NE
        rw [mkB_list] at NEH
        rw [show ∀ l : List UInt8, (⟨l.toArray⟩ : ByteArray) = mkB l from fun _ => rfl] at PB PH NEH
        have hne : (!(mkB a.name).toList.isEmpty) = !a.name.isEmpty := by rw [Lib.toList_data, mkB_list]
        have m1 : (mkB (nstr (!a.name.isEmpty) a.name)).size ≤ 2097182 := by rw [mkB_size]; unfold adSize at hsm; omega
        have m2 : (mkB (putStr a.box)).size ≤ 2097182 := by rw [mkB_size]; unfold adSize at hsm; omega
        have m3 : (mkB (putStr a.host)).size ≤ 2097182 := by rw [mkB_size]; unfold adSize at hsm; omega
        have hL0 : L.length ≤ 110000001 := by omega
        obtain ⟨S1, h1⟩ : ∃ S, S = mkB (nstr (!a.name.isEmpty) a.name) := ⟨_, rfl⟩
        obtain ⟨S2, h2⟩ : ∃ S, S = mkB (putStr a.box) := ⟨_, rfl⟩
        obtain ⟨S3, h3⟩ : ∃ S, S = mkB (putStr a.host) := ⟨_, rfl⟩
        have hj := addr_list L a S1 S2 S3 h1 h2 h3
        rw [← h1] at NEH m1
        rw [← h2] at PB m2
        rw [← h3] at PH m3
        have HJ := Lib.hid hj
        have z1 : wr.cell? ⟨g, off + k * 3, none⟩ = some (.string (mkB a.name)) := (hB.cell (p := ⟨g, off + k * 3, none⟩) hg).trans x1
        have z2 : wr.cell? ⟨g, off + k * 3 + 1, none⟩ = some (.string (mkB a.box)) := (hB.cell (p := ⟨g, off + k * 3 + 1, none⟩) hg).trans x2
        have z3 : wr.cell? ⟨g, off + k * 3 + 2, none⟩ = some (.string (mkB a.host)) := (hB.cell (p := ⟨g, off + k * 3 + 2, none⟩) hg).trans x3
        rw [← hne] at NEH
        clear hj h1 h2 h3 NE hne x1 x2 x3 htk hle hsm hM hF hos n1 n2 n3
        generalize mkB a.name = nm at NEH z1
        generalize mkB a.box = bx at PB z2
        generalize mkB a.host = ho at PH z3
        have A0 := Lib.hid (AtW.mk (w := w) (xb := wr.heap.size) (nm := nm) (bx := bx) (ho := ho) (M := 110000001) (hown.alloc (.cells #[.string nm, .string bx, .string ho] 195)) (hB.alloc hsz _) (new_three wr _ _ _ _) hL0)
        clear hown hB HL
        go_wp2_with (first | (at_builtin; refine wpList_append_own _ rfl _ _ 22 rfl w.heap.size 5 i0 (.int .u8 0) 1 1 Tryz.underlying22 hi hz0 hz1 hz2 rfl (by decide) _ _ _ rfl (A0.out.row.alloc _) ⟨wr.heap.size + 1, 0, none⟩ 1 1 [.int .u8 40] rfl rfl (cell_one_at _ _ _ _ (by simp)) (by simp [Value.oneCell']) (by have := A0.out.len; unfold maxLen; omega) (by have := A0.out.len; omega) (by have := A0.out.below.size; simp; omega) ?_; intro v1 w1 hown hg _; have A1 := Lib.hid (A0.out.byte 40 hown hg); clear A0 hown hg; have c1 := (three_cells A1.out.rec').1) | (go_at_call 122; refine (NEH.out _ (TE.out _ A1.out.below)).mono ?_; rintro e w2 ⟨rfl, hBc⟩; have A2 := Lib.hid (A1.out.call hBc); clear A1 hBc NEH c1) | (at_builtin; refine Lib.wpList_append_own_string _ rfl _ _ 22 9 rfl w.heap.size 5 i0 Tryz.underlying22 Tryz.underlying9 hi hz0 hz1 hz2 _ _ _ rfl A2.out.row S1 rfl (by have := A2.out.len; have := m1; unfold maxLen; omega) (by have := A2.out.len; have := m1; omega) A2.out.below.size ?_; intro v3 w3 hown hg _; have A3 := Lib.hid (A2.out.str S1 2097182 m1 (row_app hown) hg); clear A2 hown hg) | (at_builtin; refine Lib.wpList_append_own_string _ rfl _ _ 22 9 rfl w.heap.size 5 i0 Tryz.underlying22 Tryz.underlying9 hi hz0 hz1 hz2 _ _ _ rfl A3.out.row (⟨#[32, 78, 73, 76, 32]⟩ : ByteArray) rfl (by have := A3.out.len; have := nil5; unfold maxLen; omega) (by have := A3.out.len; have := nil5; omega) A3.out.below.size ?_; intro v4 w4 hown hg _; have A4 := Lib.hid (A3.out.str (⟨#[32, 78, 73, 76, 32]⟩ : ByteArray) 5 nil5 (row_app hown) hg); clear A3 hown hg; have c4 := (three_cells A4.out.rec').2.1) | (go_at_call 88; refine (PB.out _ (TE.out _ A4.out.below)).mono ?_; rintro e w5 ⟨rfl, hBc⟩; have A5 := Lib.hid (A4.out.call hBc); clear A4 hBc PB c4) | (at_builtin; refine Lib.wpList_append_own_string _ rfl _ _ 22 9 rfl w.heap.size 5 i0 Tryz.underlying22 Tryz.underlying9 hi hz0 hz1 hz2 _ _ _ rfl A5.out.row S2 rfl (by have := A5.out.len; have := m2; unfold maxLen; omega) (by have := A5.out.len; have := m2; omega) A5.out.below.size ?_; intro v6 w6 hown hg _; have A6 := Lib.hid (A5.out.str S2 2097182 m2 (row_app hown) hg); clear A5 hown hg) | (at_builtin; refine wpList_append_own _ rfl _ _ 22 rfl w.heap.size 5 i0 (.int .u8 0) 1 1 Tryz.underlying22 hi hz0 hz1 hz2 rfl (by decide) _ _ _ rfl (A6.out.row.alloc _) ⟨w6.heap.size, 0, none⟩ 1 1 [.int .u8 32] rfl rfl (cell_one_at _ _ _ _ (by simp)) (by simp [Value.oneCell']) (by have := A6.out.len; unfold maxLen; omega) (by have := A6.out.len; omega) (by have := A6.out.below.size; simp; omega) ?_; intro v7 w7 hown hg _; have A7 := Lib.hid (A6.out.byte 32 hown hg); clear A6 hown hg; have c7 := (three_cells A7.out.rec').2.2) | (go_at_call 88; refine (PH.out _ (TE.out _ A7.out.below)).mono ?_; rintro e w8 ⟨rfl, hBc⟩; have A8 := Lib.hid (A7.out.call hBc); clear A7 hBc PH c7) | (at_builtin; refine Lib.wpList_append_own_string _ rfl _ _ 22 9 rfl w.heap.size 5 i0 Tryz.underlying22 Tryz.underlying9 hi hz0 hz1 hz2 _ _ _ rfl A8.out.row S3 rfl (by have := A8.out.len; have := m3; unfold maxLen; omega) (by have := A8.out.len; have := m3; omega) A8.out.below.size ?_; intro v9 w9 hown hg _; have A9 := Lib.hid (A8.out.str S3 2097182 m3 (row_app hown) hg); clear A8 hown hg) | (at_builtin; refine wpList_append_own _ rfl _ _ 22 rfl w.heap.size 5 i0 (.int .u8 0) 1 1 Tryz.underlying22 hi hz0 hz1 hz2 rfl (by decide) _ _ _ rfl (A9.out.row.alloc _) ⟨w9.heap.size, 0, none⟩ 1 1 [.int .u8 41] rfl rfl (cell_one_at _ _ _ _ (by simp)) (by simp [Value.oneCell']) (by have := A9.out.len; unfold maxLen; omega) (by have := A9.out.len; omega) (by have := A9.out.below.size; simp; omega) ?_; intro v10 w10 hown hg _; have A10 := Lib.hid (A9.out.byte 41 hown hg); clear A9 hown hg))
        go_wp2_with fail
        go_roundw
        case rel => exact ⟨k + 1, L ++ addrT a, by omega, by go_num, HN, by rw [← HJ.out]; exact A10.out.row, A10.out.below⟩
        case measure => simp [intOf]; omega
      · obtain rfl : k = l.length := by omega
        have g1 : decide ((l.length : Int) < (l.length : Int)) = false := by simp
        have hos : L.length ≤ 110000001 := by
          have h := HFL.out
          rw [HL.out, List.take_length, List.length_cons]
          omega
        have HF : Hid (L ++ [41] = 40 :: (l.flatMap addrT ++ [41])) := Lib.hid (by rw [HL.out, List.take_length]; rfl)
        clear HL
        go_wp2_with (first | (at_builtin; refine wpList_append_own _ rfl _ _ 22 rfl w.heap.size 5 i0 (.int .u8 0) 1 1 Tryz.underlying22 hi hz0 hz1 hz2 rfl (by decide) _ _ _ rfl (hown.alloc _) ⟨wr.heap.size, 0, none⟩ 1 1 [.int .u8 41] rfl rfl (cell_one_new _ _ _) (by simp [Value.oneCell']) (by unfold maxLen; omega) (by omega) (by simp; omega) ?_; intro v3 w3 hO3 hg3 _; have hB3 : Below w.heap.size w w3 := (hB.alloc hsz _).grown hg3 (by simp; omega) (fun k e => (hown.lt k e).1); have hrow : w3.ownsRow w.heap.size 5 1 v3 (L ++ [41]).length ((L ++ [41]).map bv) := (by simpa [bv] using hO3); have hback := rowJ_back (P := Tryz.prog) hrow 22 9 5 Tryz.underlying22 Tryz.underlying5 Tryz.underlying9))
        go_ret
        exact ⟨by rw [← HF.out]; rfl, hB3⟩
end Go.Proofs.YtgebkpnieailbaaGreatDoor

/-
  Addresses: the walk of spec's Unquote.
-/
namespace Go.Proofs.YtgebkpnieailbaaGreatDoor
set_option linter.unusedVariables false
open Go.RowKit

theorem unesc_skip (l : List UInt8) (k : Nat) (c : UInt8) (h1 : l[k]? = some 92) (h2 : l[k + 1]? = some c) : unesc (l.drop k) = c :: unesc (l.drop (k + 2)) := by
  have a1 := (List.getElem?_eq_some_iff.1 h1).1
  have a2 := (List.getElem?_eq_some_iff.1 h2).1
  rw [List.getElem?_eq_getElem a1] at h1
  rw [List.getElem?_eq_getElem a2] at h2
  rw [List.drop_eq_getElem_cons a1, List.drop_eq_getElem_cons a2, Option.some.inj h1, Option.some.inj h2, unesc, if_pos rfl]
theorem unesc_take (l : List UInt8) (k : Nat) (b : UInt8) (h1 : l[k]? = some b) (h2 : b ≠ 92 ∨ l.length ≤ k + 1) : unesc (l.drop k) = b :: unesc (l.drop (k + 1)) := by
  have a1 := (List.getElem?_eq_some_iff.1 h1).1
  rw [List.getElem?_eq_getElem a1] at h1
  rw [List.drop_eq_getElem_cons a1, Option.some.inj h1]
  rcases h2 with h2 | h2
  · exact unesc_cons b _ h2
  · rw [List.drop_eq_nil_of_le h2]
    rfl
theorem byte_some (s : ByteArray) (k : Nat) (h : k < s.size) : s.data.toList[k]? = some s[k] := by
  rw [List.getElem?_eq_getElem (by simpa using h)]
  rfl
theorem quoted_small (t : ByteArray) (h : t.size < 2) : quotedL t.data.toList = false := by
  unfold quotedL
  rw [decide_eq_false (by simpa using h)]
  rfl
theorem quoted_is (t : ByteArray) (h : 2 ≤ t.size) : quotedL t.data.toList = ((t[0] == 34) && (t[t.size - 1] == 34)) := by
  unfold quotedL
  have hl : t.data.toList.length = t.size := by simp
  rw [decide_eq_true (by omega), hl, byte_at t 0 (by omega), byte_at t (t.size - 1) (by omega), Bool.true_and]
theorem ne_form {b c : UInt8} (h : b ≠ c) : ((b.toNat : Int) != (c.toNat : Int)) = true := by
  rw [bne_iff_ne]
  intro e
  exact h (UInt8.toNat_inj.1 (by omega))
theorem eq_form {b c : UInt8} (h : b = c) : ((b.toNat : Int) != (c.toNat : Int)) = false := by rw [h]; simp
/-- The text between the quotes. -/
def midL (t : ByteArray) : List UInt8 := (t.data.toList.drop 1).take (t.size - 2)
theorem mid_len (t : ByteArray) : (midL t).length = t.size - 2 := by
  unfold midL
  rw [List.length_take, List.length_drop, show t.data.toList.length = t.size by simp]
  omega
theorem mid_at (t : ByteArray) (k : Nat) (h : k < t.size - 2) : (midL t)[k]? = some (t[k + 1]'(by omega)) := by
  unfold midL
  rw [List.getElem?_take, if_pos h, List.getElem?_drop, Nat.add_comm 1 k, byte_some t (k + 1) (by omega)]

theorem mid_from (t : ByteArray) (j : Nat) (h1 : 1 ≤ j) (h : j < t.size - 1) : (midL t)[j - 1]? = some (t[j]'(by omega)) := by
  obtain ⟨k, rfl⟩ : ∃ k, j = k + 1 := ⟨j - 1, by omega⟩
  exact mid_at t k (by omega)
theorem mid_skip (t : ByteArray) (L R : List UInt8) (j : Nat) (h1 : 1 ≤ j) (h : j + 1 < t.size - 1) (h92 : t[j]'(by omega) = 92) (hL : L ++ unesc ((midL t).drop (j - 1)) = R) :
    (L ++ [t[j + 1]'(by omega)]) ++ unesc ((midL t).drop (j + 2 - 1)) = R := by
  have e1 := mid_from t j h1 (by omega)
  have e2 := mid_from t (j + 1) (by omega) h
  rw [h92] at e1
  rw [show j + 1 - 1 = j - 1 + 1 by omega] at e2
  rw [← hL, unesc_skip _ (j - 1) _ e1 e2, List.append_assoc, show j + 2 - 1 = j - 1 + 2 by omega]
  rfl
theorem mid_take (t : ByteArray) (L R : List UInt8) (j : Nat) (h1 : 1 ≤ j) (h : j < t.size - 1) (hn : t[j]'(by omega) ≠ 92 ∨ t.size - 1 ≤ j + 1) (hL : L ++ unesc ((midL t).drop (j - 1)) = R) :
    (L ++ [t[j]'(by omega)]) ++ unesc ((midL t).drop (j + 1 - 1)) = R := by
  have e1 := mid_from t j h1 (by omega)
  rw [← hL, unesc_take _ (j - 1) _ e1 (hn.imp id (fun h => by rw [mid_len]; omega)), List.append_assoc, show j + 1 - 1 = j - 1 + 1 by omega]
  rfl

set_option maxRecDepth 100000 in
set_option maxHeartbeats 1000000 in
theorem specUnquote_any (s : ByteArray) (w : World) (hs : s.size ≤ 1048576) :
    Calls Tryz.prog 153 #[.string s] w fun e w' => e = .returned (.string (mkB (unqL s.data.toList))) ∧ Below w.heap.size w w' := by
  obtain ⟨i0, hi, hz0, hz1, hz2⟩ := info_parts infoByteJ
  have TR := Lib.hid (fun w => specTrim_any s w hs)
  unfold unqL
  have htl := trimLen s.data.toList [32, 9]
  generalize Lib.trimS s.data.toList [32, 9] = T at TR htl ⊢
  obtain ⟨t, rfl⟩ : ∃ t : ByteArray, T = t.data.toList := ⟨mkB T, rfl⟩
  rw [show (⟨t.data.toList.toArray⟩ : ByteArray) = t from rfl] at TR
  have hts : t.size ≤ 1048576 := by simp at htl; omega
  clear htl
  by_cases h2 : t.size < 2
  · have g1 : decide ((t.size : Int) < 2) = true := by simp; omega
    unfold unqT
    rw [quoted_small t h2, if_neg (by simp), show mkB t.data.toList = t from rfl]
    clear h2
    go_enter Tryz.func153, Tryz.ntmps153
    go_wp2_with fail
    refine (TR.out _).mono ?_
    rintro e w1 ⟨rfl, rfl⟩
    go_wp2_with fail
    go_ret
    exact ⟨rfl, Below.refl _ _⟩
  · have g1 : decide ((t.size : Int) < 2) = false := by simp; omega
    have i0' : 0 < t.size := by omega
    have i1 : (0 : Int) ≤ (t.size : Int) - 1 := by omega
    have i2 : (t.size : Int) - 1 < (t.size : Int) := by omega
    have i3 : t.size - 1 < t.size := by omega
    have hq := quoted_is t (by omega)
    by_cases h0 : t[0] = 34
    · have g2 : ((t[0].toNat : Int) != 34) = false := eq_form (c := 34) h0
      by_cases hL : t[t.size - 1] = 34
      · have g3 : ((t[t.size - 1].toNat : Int) != 34) = false := eq_form (c := 34) hL
        rw [h0, hL] at hq
        have hR : unqT t.data.toList = unesc (midL t) := by
          unfold unqT midL
          rw [hq]
          simp
        rw [hR]
        obtain ⟨R, hR2⟩ : ∃ R, unesc (midL t) = R := ⟨_, rfl⟩
        rw [hR2]
        have HR : Hid (unesc ((midL t).drop 0) = R) := Lib.hid (by rw [List.drop_zero]; exact hR2)
        have H2 : Hid (2 ≤ t.size) := Lib.hid (by omega)
        clear hR hR2 hq h0 hL h2
        go_enter Tryz.func153, Tryz.ntmps153
        go_wp2_with fail
        refine (TR.out _).mono ?_
        rintro e w1 ⟨rfl, rfl⟩
        go_wp2_with fail
        go_loopw [4, 5] (fun o i wr => ∃ (j : Nat) (L : List UInt8), 1 ≤ j ∧ j ≤ t.size - 1 ∧ i = .int .i64 (j : Int) ∧ Hid (L ++ unesc ((midL t).drop (j - 1)) = R) ∧ L.length ≤ j ∧ wr.ownsRow w1.heap.size 5 1 o L.length (L.map bv) ∧ Below w1.heap.size w1 wr) (fun _ i _ => t.size - (intOf i).toNat)
        case atStart => exact ⟨1, [], Nat.le_refl _, by have := H2.out; omega, rfl, HR, by simp, World.ownsRow_lit w1 #[] 0 (Nat.le_refl _) (by decide) rfl, (Below.refl _ _).alloc (Nat.le_refl _) _⟩
        case round =>
          obtain ⟨j, L, hj1, hj, rfl, HL, hLl, hown, hB⟩ := hrel
          have hsz := hB.size
          have h2 := H2.out
          clear HR
          by_cases hlt : j < t.size - 1
          · have d1 : decide ((j : Int) < (t.size : Int) - 1) = true := by simp; omega
            have j1 : (0 : Int) ≤ (j : Int) := by omega
            have j2 : (j : Int) < (t.size : Int) := by omega
            have j3 : j < t.size := by omega
            by_cases h92 : t[j] = 92
            · have d2 : ((t[j].toNat : Int) == 92) = true := by rw [h92]; rfl
              by_cases hlt2 : j + 1 < t.size - 1
              · have d3 : decide ((j : Int) + 1 < (t.size : Int) - 1) = true := by simp; omega
                have j4 : (0 : Int) ≤ (j : Int) + 1 := by omega
                have j5 : (j : Int) + 1 < (t.size : Int) := by omega
                have j6 : j + 1 < t.size := by omega
                have HN := Lib.hid (mid_skip t L R j hj1 hlt2 h92 HL.out)
                clear h92 HL
                go_wp2_with (first | (at_builtin; refine wpList_append_own _ rfl _ _ 22 rfl w1.heap.size 5 i0 (.int .u8 0) 1 1 Tryz.underlying22 hi hz0 hz1 hz2 rfl (by decide) _ _ _ rfl (hown.alloc _) ⟨wr.heap.size, 0, none⟩ 1 1 [.int .u8 (t[j + 1].toNat : Int)] rfl rfl (cell_one_new _ _ _) (by simp [Value.oneCell']) (by unfold maxLen; omega) (by omega) (by simp; omega) ?_; intro v3 w3 hO3 hg3 _; have hB3 : Below w1.heap.size w1 w3 := (hB.alloc hsz _).grown hg3 (by simp; omega) (fun k e => (hown.lt k e).1)))
                have hrow : w3.ownsRow w1.heap.size 5 1 v3 (L ++ [t[j + 1]]).length ((L ++ [t[j + 1]]).map bv) := by simpa [bv] using hO3
                clear hown hO3 hg3
                go_wp2_with fail
                go_roundw
                case rel => exact ⟨j + 2, L ++ [t[j + 1]], by omega, by omega, by go_num, HN, by simp; omega, hrow, hB3⟩
                case measure => simp [intOf]; omega
              · have d3 : decide ((j : Int) + 1 < (t.size : Int) - 1) = false := by simp; omega
                have HN := Lib.hid (mid_take t L R j hj1 hlt (.inr (by omega)) HL.out)
                clear h92 HL
                go_wp2_with (first | (at_builtin; refine wpList_append_own _ rfl _ _ 22 rfl w1.heap.size 5 i0 (.int .u8 0) 1 1 Tryz.underlying22 hi hz0 hz1 hz2 rfl (by decide) _ _ _ rfl (hown.alloc _) ⟨wr.heap.size, 0, none⟩ 1 1 [.int .u8 (t[j].toNat : Int)] rfl rfl (cell_one_new _ _ _) (by simp [Value.oneCell']) (by unfold maxLen; omega) (by omega) (by simp; omega) ?_; intro v3 w3 hO3 hg3 _; have hB3 : Below w1.heap.size w1 w3 := (hB.alloc hsz _).grown hg3 (by simp; omega) (fun k e => (hown.lt k e).1)))
                have hrow : w3.ownsRow w1.heap.size 5 1 v3 (L ++ [t[j]]).length ((L ++ [t[j]]).map bv) := by simpa [bv] using hO3
                clear hown hO3 hg3
                go_wp2_with fail
                go_roundw
                case rel => exact ⟨j + 1, L ++ [t[j]], by omega, by omega, by go_num, HN, by simp; omega, hrow, hB3⟩
                case measure => simp [intOf]; omega
            · have d2 : ((t[j].toNat : Int) == 92) = false := ne_byte (b := 92) h92
              have HN := Lib.hid (mid_take t L R j hj1 hlt (.inl h92) HL.out)
              clear h92 HL
              go_wp2_with (first | (at_builtin; refine wpList_append_own _ rfl _ _ 22 rfl w1.heap.size 5 i0 (.int .u8 0) 1 1 Tryz.underlying22 hi hz0 hz1 hz2 rfl (by decide) _ _ _ rfl (hown.alloc _) ⟨wr.heap.size, 0, none⟩ 1 1 [.int .u8 (t[j].toNat : Int)] rfl rfl (cell_one_new _ _ _) (by simp [Value.oneCell']) (by unfold maxLen; omega) (by omega) (by simp; omega) ?_; intro v3 w3 hO3 hg3 _; have hB3 : Below w1.heap.size w1 w3 := (hB.alloc hsz _).grown hg3 (by simp; omega) (fun k e => (hown.lt k e).1)))
              have hrow : w3.ownsRow w1.heap.size 5 1 v3 (L ++ [t[j]]).length ((L ++ [t[j]]).map bv) := by simpa [bv] using hO3
              clear hown hO3 hg3
              go_wp2_with fail
              go_roundw
              case rel => exact ⟨j + 1, L ++ [t[j]], by omega, by omega, by go_num, HN, by simp; omega, hrow, hB3⟩
              case measure => simp [intOf]; omega
          · have d1 : decide ((j : Int) < (t.size : Int) - 1) = false := by simp; omega
            have HQ : Hid (L = R) := Lib.hid (by
              have := HL.out
              rw [List.drop_eq_nil_of_le (by rw [mid_len]; omega)] at this
              simpa [unesc] using this)
            have hback := rowJ_back (P := Tryz.prog) hown 22 9 5 Tryz.underlying22 Tryz.underlying5 Tryz.underlying9
            go_wp2_with fail
            go_ret
            exact ⟨by rw [← HQ.out]; rfl, hB⟩
      · have g3 : ((t[t.size - 1].toNat : Int) != 34) = true := ne_form (c := 34) hL
        unfold unqT
        rw [hq, h0, beq_eq_false_iff_ne.2 hL, if_neg (by simp), show mkB t.data.toList = t from rfl]
        clear hq h0 hL h2
        go_enter Tryz.func153, Tryz.ntmps153
        go_wp2_with fail
        refine (TR.out _).mono ?_
        rintro e w1 ⟨rfl, rfl⟩
        go_wp2_with fail
        go_ret
        exact ⟨rfl, Below.refl _ _⟩
    · have g2 : ((t[0].toNat : Int) != 34) = true := ne_form (c := 34) h0
      unfold unqT
      rw [hq, beq_eq_false_iff_ne.2 h0, if_neg (by simp), show mkB t.data.toList = t from rfl]
      clear hq h0 h2
      go_enter Tryz.func153, Tryz.ntmps153
      go_wp2_with fail
      refine (TR.out _).mono ?_
      rintro e w1 ⟨rfl, rfl⟩
      go_wp2_with fail
      go_ret
      exact ⟨rfl, Below.refl _ _⟩
end Go.Proofs.YtgebkpnieailbaaGreatDoor

/-
  The walk of impl's Trim.
-/
namespace Go.Proofs.YtgebkpnieailbaaGreatDoor
set_option linter.unusedVariables false
open Go.RowKit Go.Shelf

set_option maxHeartbeats 1000000 in
theorem implTrim_any (s : ByteArray) (w : World) (hs : s.size ≤ 9223372036854775807) :
    Calls Tryz.prog 131 #[.string s] w fun e w' => e = .returned (.string ⟨(Lib.trimS s.data.toList [32, 9]).toArray⟩) ∧ Below w.heap.size w w' := by
  have hcon := Any.strings_Trim_laid Tryz.lays160 (by kernel_rfl) s ⟨#[32, 9]⟩ w hs (by decide) (Go.Proofs.ascii_of_all (by decide))
  change Calls Tryz.prog 162 _ _ (fun e w' => e = .returned (.string ⟨(Lib.trimS s.data.toList [32, 9]).toArray⟩) ∧ Below w.heap.size w w') at hcon
  generalize (⟨(Lib.trimS s.data.toList [32, 9]).toArray⟩ : ByteArray) = r at hcon ⊢
  have HC := Lib.hid hcon
  clear hcon
  go_enter Tryz.func131, Tryz.ntmps131
  go_wp2_with (go_at_call 162; refine HC.out.mono ?_; rintro e w' ⟨rfl, hB⟩)
  go_ret
  exact ⟨rfl, hB⟩
end Go.Proofs.YtgebkpnieailbaaGreatDoor

/-
  Addresses: the walks of impl's unescape, Unquote.
-/
namespace Go.Proofs.YtgebkpnieailbaaGreatDoor
set_option linter.unusedVariables false
open Go.RowKit

theorem escA_on (l : List UInt8) (k : Nat) (b : UInt8) (h : l[k]? = some b) : unescA true (l.drop k) = b :: unescA false (l.drop (k + 1)) := by
  have a1 := (List.getElem?_eq_some_iff.1 h).1
  rw [List.getElem?_eq_getElem a1] at h
  rw [List.drop_eq_getElem_cons a1, Option.some.inj h]
  rfl
theorem escA_mark (l : List UInt8) (k : Nat) (h : l[k]? = some 92) (h2 : k + 1 < l.length) : unescA false (l.drop k) = unescA true (l.drop (k + 1)) := by
  have a1 := (List.getElem?_eq_some_iff.1 h).1
  rw [List.getElem?_eq_getElem a1] at h
  rw [List.drop_eq_getElem_cons a1, Option.some.inj h, List.drop_eq_getElem_cons h2]
  simp [unescA, unesc]
theorem escA_off (l : List UInt8) (k : Nat) (b : UInt8) (h : l[k]? = some b) (h2 : b ≠ 92 ∨ l.length ≤ k + 1) (e : Bool) (h3 : l.length ≤ k + 1 ∨ e = false) : unescA false (l.drop k) = b :: unescA e (l.drop (k + 1)) := by
  have h4 : unescA e (l.drop (k + 1)) = unescA false (l.drop (k + 1)) := by
    rcases h3 with h3 | h3
    · rw [List.drop_eq_nil_of_le h3]
      cases e <;> rfl
    · rw [h3]
  rw [h4]
  exact unesc_take l k b h h2

set_option maxRecDepth 100000 in
set_option maxHeartbeats 1000000 in
theorem unescape_any (s : ByteArray) (w : World) (hs : s.size ≤ 1048576) :
    Calls Tryz.prog 207 #[.string s] w fun e w' => e = .returned (.string (mkB (unesc s.data.toList))) ∧ Below w.heap.size w w' := by
  obtain ⟨i0, hi, hz0, hz1, hz2⟩ := info_parts infoByteJ
  obtain ⟨R, hR2⟩ : ∃ R, unesc s.data.toList = R := ⟨_, rfl⟩
  rw [hR2]
  have HR : Hid (unescA false (s.data.toList.drop 0) = R) := Lib.hid (by rw [List.drop_zero]; exact hR2)
  clear hR2
  have hlen : s.data.toList.length = s.size := by simp
  have HLEN := Lib.hid hlen
  clear hlen
  go_enter Tryz.func207, Tryz.ntmps207
  go_wp2
  go_loopw [3, 4, 8] (fun o c i wr => ∃ (k : Nat) (L : List UInt8) (e : Bool), k ≤ s.size ∧ i = .int .i64 (k : Int) ∧ c = .bool e ∧ Hid (L ++ unescA e (s.data.toList.drop k) = R) ∧ L.length ≤ k ∧ wr.ownsRow w.heap.size 5 1 o L.length (L.map bv) ∧ Below w.heap.size w wr) (fun _ _ i _ => s.size - (intOf i).toNat)
  case atStart => exact ⟨0, [], false, Nat.zero_le _, rfl, rfl, HR, Nat.le_refl _, World.ownsRow_nil _ _ _ _, Below.refl _ _⟩
  case round =>
    obtain ⟨k, L, e, hk, rfl, rfl, HL, hLl, hown, hB⟩ := hrel
    have hsz := hB.size
    clear HR
    by_cases hlt : k < s.size
    · have d1 : decide ((k : Int) < (s.size : Int)) = true := by simp; omega
      have j1 : (0 : Int) ≤ (k : Int) := by omega
      have j2 : (k : Int) < (s.size : Int) := by omega
      have hb := byte_some s k hlt
      have hll := HLEN.out
      cases e with
      | true =>
        have HN : Hid ((L ++ [s[k]]) ++ unescA false (s.data.toList.drop (k + 1)) = R) := Lib.hid (by rw [← HL.out, escA_on _ k _ hb, List.append_assoc]; rfl)
        clear hb HL hll
        by_cases h92 : s[k] = 92
        · have d2 : ((s[k].toNat : Int) == 92) = true := by rw [h92]; rfl
          clear h92
          go_wp2_with (first | (at_builtin; refine wpList_append_own _ rfl _ _ 22 rfl w.heap.size 5 i0 (.int .u8 0) 1 1 Tryz.underlying22 hi hz0 hz1 hz2 rfl (by decide) _ _ _ rfl (hown.alloc _) ⟨wr.heap.size, 0, none⟩ 1 1 [.int .u8 (s[k].toNat : Int)] rfl rfl (cell_one_new _ _ _) (by simp [Value.oneCell']) (by unfold maxLen; omega) (by omega) (by simp; omega) ?_; intro v3 w3 hO3 hg3 _; have hB3 : Below w.heap.size w w3 := (hB.alloc hsz _).grown hg3 (by simp; omega) (fun k e => (hown.lt k e).1)))
          have hrow : w3.ownsRow w.heap.size 5 1 v3 (L ++ [s[k]]).length ((L ++ [s[k]]).map bv) := by simpa [bv] using hO3
          clear hown hO3 hg3
          go_wp2_with fail
          go_roundw
          case rel => exact ⟨k + 1, L ++ [s[k]], false, by omega, by go_num, rfl, HN, by simp; omega, hrow, hB3⟩
          case measure => simp [intOf]; omega
        · have d2 : ((s[k].toNat : Int) == 92) = false := ne_byte (b := 92) h92
          clear h92
          go_wp2_with (first | (at_builtin; refine wpList_append_own _ rfl _ _ 22 rfl w.heap.size 5 i0 (.int .u8 0) 1 1 Tryz.underlying22 hi hz0 hz1 hz2 rfl (by decide) _ _ _ rfl (hown.alloc _) ⟨wr.heap.size, 0, none⟩ 1 1 [.int .u8 (s[k].toNat : Int)] rfl rfl (cell_one_new _ _ _) (by simp [Value.oneCell']) (by unfold maxLen; omega) (by omega) (by simp; omega) ?_; intro v3 w3 hO3 hg3 _; have hB3 : Below w.heap.size w w3 := (hB.alloc hsz _).grown hg3 (by simp; omega) (fun k e => (hown.lt k e).1)))
          have hrow : w3.ownsRow w.heap.size 5 1 v3 (L ++ [s[k]]).length ((L ++ [s[k]]).map bv) := by simpa [bv] using hO3
          clear hown hO3 hg3
          go_wp2_with fail
          go_roundw
          case rel => exact ⟨k + 1, L ++ [s[k]], false, by omega, by go_num, rfl, HN, by simp; omega, hrow, hB3⟩
          case measure => simp [intOf]; omega
      | false =>
        by_cases h92 : s[k] = 92
        · have d2 : ((s[k].toNat : Int) == 92) = true := by rw [h92]; rfl
          by_cases hl : k + 1 < s.size
          · have d3 : ((k : Int) == (s.size : Int) - 1) = false := by rw [beq_eq_false_iff_ne]; omega
            have HN : Hid (L ++ unescA true (s.data.toList.drop (k + 1)) = R) := Lib.hid (by rw [← HL.out, escA_mark _ k (by rw [hb, h92]) (by omega)])
            clear hb HL hll h92
            go_wp2_with fail
            go_roundw
            case rel => exact ⟨k + 1, L, true, by omega, by go_num, rfl, HN, by omega, hown, hB⟩
            case measure => simp [intOf]; omega
          · have d3 : ((k : Int) == (s.size : Int) - 1) = true := by rw [beq_iff_eq]; omega
            have HN : Hid ((L ++ [s[k]]) ++ unescA true (s.data.toList.drop (k + 1)) = R) := Lib.hid (by rw [← HL.out, escA_off _ k _ hb (.inr (by omega)) true (.inl (by omega)), List.append_assoc]; rfl)
            clear hb HL hll h92
            go_wp2_with (first | (at_builtin; refine wpList_append_own _ rfl _ _ 22 rfl w.heap.size 5 i0 (.int .u8 0) 1 1 Tryz.underlying22 hi hz0 hz1 hz2 rfl (by decide) _ _ _ rfl (hown.alloc _) ⟨wr.heap.size, 0, none⟩ 1 1 [.int .u8 (s[k].toNat : Int)] rfl rfl (cell_one_new _ _ _) (by simp [Value.oneCell']) (by unfold maxLen; omega) (by omega) (by simp; omega) ?_; intro v3 w3 hO3 hg3 _; have hB3 : Below w.heap.size w w3 := (hB.alloc hsz _).grown hg3 (by simp; omega) (fun k e => (hown.lt k e).1)))
            have hrow : w3.ownsRow w.heap.size 5 1 v3 (L ++ [s[k]]).length ((L ++ [s[k]]).map bv) := by simpa [bv] using hO3
            clear hown hO3 hg3
            go_wp2_with fail
            go_roundw
            case rel => exact ⟨k + 1, L ++ [s[k]], true, by omega, by go_num, rfl, HN, by simp; omega, hrow, hB3⟩
            case measure => simp [intOf]; omega
        · have d2 : ((s[k].toNat : Int) == 92) = false := ne_byte (b := 92) h92
          have HN : Hid ((L ++ [s[k]]) ++ unescA false (s.data.toList.drop (k + 1)) = R) := Lib.hid (by rw [← HL.out, escA_off _ k _ hb (.inl h92) false (.inr rfl), List.append_assoc]; rfl)
          clear hb HL hll h92
          go_wp2_with (first | (at_builtin; refine wpList_append_own _ rfl _ _ 22 rfl w.heap.size 5 i0 (.int .u8 0) 1 1 Tryz.underlying22 hi hz0 hz1 hz2 rfl (by decide) _ _ _ rfl (hown.alloc _) ⟨wr.heap.size, 0, none⟩ 1 1 [.int .u8 (s[k].toNat : Int)] rfl rfl (cell_one_new _ _ _) (by simp [Value.oneCell']) (by unfold maxLen; omega) (by omega) (by simp; omega) ?_; intro v3 w3 hO3 hg3 _; have hB3 : Below w.heap.size w w3 := (hB.alloc hsz _).grown hg3 (by simp; omega) (fun k e => (hown.lt k e).1)))
          have hrow : w3.ownsRow w.heap.size 5 1 v3 (L ++ [s[k]]).length ((L ++ [s[k]]).map bv) := by simpa [bv] using hO3
          clear hown hO3 hg3
          go_wp2_with fail
          go_roundw
          case rel => exact ⟨k + 1, L ++ [s[k]], false, by omega, by go_num, rfl, HN, by simp; omega, hrow, hB3⟩
          case measure => simp [intOf]; omega
    · have d1 : decide ((k : Int) < (s.size : Int)) = false := by simp; omega
      have HQ : Hid (L = R) := Lib.hid (by
        have := HL.out
        rw [List.drop_eq_nil_of_le (by have := HLEN.out; omega)] at this
        cases e <;> simpa [unescA, unesc] using this)
      have hback := rowJ_back (P := Tryz.prog) hown 22 9 5 Tryz.underlying22 Tryz.underlying5 Tryz.underlying9
      go_wp2_with fail
      go_ret
      exact ⟨by rw [← HQ.out]; rfl, hB⟩

theorem mid_extract (t : ByteArray) : (t.extract 1 (t.size - 1)).data.toList = midL t := by
  rw [Lib.extract_data]
  unfold midL
  rw [show t.size - 1 - 1 = t.size - 2 by omega]
set_option maxRecDepth 100000 in
set_option maxHeartbeats 1000000 in
theorem implUnquote_any (s : ByteArray) (w : World) (hs : s.size ≤ 1048576) :
    Calls Tryz.prog 182 #[.string s] w fun e w' => e = .returned (.string (mkB (unqL s.data.toList))) ∧ Below w.heap.size w w' := by
  have TR := Lib.hid (fun w => implTrim_any s w (by omega))
  unfold unqL
  have htl := trimLen s.data.toList [32, 9]
  generalize Lib.trimS s.data.toList [32, 9] = T at TR htl ⊢
  obtain ⟨t, rfl⟩ : ∃ t : ByteArray, T = t.data.toList := ⟨mkB T, rfl⟩
  rw [show (⟨t.data.toList.toArray⟩ : ByteArray) = t from rfl] at TR
  have hts : t.size ≤ 1048576 := by simp at htl; omega
  clear htl
  by_cases h2 : t.size < 2
  · have g1 : decide ((t.size : Int) < 2) = true := by simp; omega
    unfold unqT
    rw [quoted_small t h2, if_neg (by simp), show mkB t.data.toList = t from rfl]
    clear h2
    go_enter Tryz.func182, Tryz.ntmps182
    go_wp2_with fail
    refine (TR.out _).mono ?_
    rintro e w1 ⟨rfl, hB1⟩
    go_wp2_with fail
    go_ret
    exact ⟨rfl, hB1⟩
  · have g1 : decide ((t.size : Int) < 2) = false := by simp; omega
    have i0' : 0 < t.size := by omega
    have i1 : (0 : Int) ≤ (t.size : Int) - 1 := by omega
    have i2 : (t.size : Int) - 1 < (t.size : Int) := by omega
    have i3 : t.size - 1 < t.size := by omega
    have i4 : (1 : Int) ≤ (t.size : Int) - 1 := by omega
    have i5 : (t.size : Int) - 1 ≤ (t.size : Int) := by omega
    have hq := quoted_is t (by omega)
    by_cases h0 : t[0] = 34
    · have g2 : ((t[0].toNat : Int) != 34) = false := eq_form (c := 34) h0
      by_cases hL : t[t.size - 1] = 34
      · have g3 : ((t[t.size - 1].toNat : Int) != 34) = false := eq_form (c := 34) hL
        rw [h0, hL] at hq
        have hR : unqT t.data.toList = unesc (midL t) := by
          unfold unqT midL
          rw [hq]
          simp
        have UE := Lib.hid (fun w => unescape_any (t.extract 1 (t.size - 1)) w (by rw [ByteArray.size_extract]; omega))
        rw [mid_extract t] at UE
        rw [hR]
        have H2 : Hid (2 ≤ t.size) := Lib.hid (by omega)
        clear hR hq h0 hL h2
        go_enter Tryz.func182, Tryz.ntmps182
        go_wp2_with fail
        refine (TR.out _).mono ?_
        rintro e w1 ⟨rfl, hB1⟩
        go_wp2_with fail
        refine (UE.out _).mono ?_
        rintro e w2 ⟨rfl, hB2⟩
        go_wp2_with fail
        go_ret
        exact ⟨rfl, hB1.trans (hB2.mono hB1.size)⟩
      · have g3 : ((t[t.size - 1].toNat : Int) != 34) = true := ne_form (c := 34) hL
        unfold unqT
        rw [hq, h0, beq_eq_false_iff_ne.2 hL, if_neg (by simp), show mkB t.data.toList = t from rfl]
        clear hq h0 hL h2
        go_enter Tryz.func182, Tryz.ntmps182
        go_wp2_with fail
        refine (TR.out _).mono ?_
        rintro e w1 ⟨rfl, hB1⟩
        go_wp2_with fail
        go_ret
        exact ⟨rfl, hB1⟩
    · have g2 : ((t[0].toNat : Int) != 34) = true := ne_form (c := 34) h0
      unfold unqT
      rw [hq, beq_eq_false_iff_ne.2 h0, if_neg (by simp), show mkB t.data.toList = t from rfl]
      clear hq h0 h2
      go_enter Tryz.func182, Tryz.ntmps182
      go_wp2_with fail
      refine (TR.out _).mono ?_
      rintro e w1 ⟨rfl, hB1⟩
      go_wp2_with fail
      go_ret
      exact ⟨rfl, hB1⟩
end Go.Proofs.YtgebkpnieailbaaGreatDoor

/-
  The walk of impl's isVisible.
-/
namespace Go.Proofs.YtgebkpnieailbaaGreatDoor
set_option linter.unusedVariables false
open Go.RowKit

theorem vis_any (b : UInt8) (w : World) : Calls Tryz.prog 130 #[.int .u8 b.toNat] w fun e w' => e = .returned (.bool (nameB b)) ∧ w = w' := by
  unfold nameB
  by_cases h1 : 33 ≤ b.toNat
  · have g1 : decide ((32 : Int) < (b.toNat : Int)) = true := by simp; omega
    rw [decide_eq_true h1]
    by_cases h2 : b.toNat ≤ 126
    · rw [decide_eq_true h2]
      have g2 : decide ((b.toNat : Int) < 127) = true := by simp; omega
      go_enter Tryz.func130, Tryz.ntmps130
      go_wp2_with fail
      go_ret
      exact ⟨rfl, rfl⟩
    · rw [decide_eq_false h2]
      have g2 : decide ((b.toNat : Int) < 127) = false := by simp; omega
      go_enter Tryz.func130, Tryz.ntmps130
      go_wp2_with fail
      go_ret
      exact ⟨rfl, rfl⟩
  · have g1 : decide ((32 : Int) < (b.toNat : Int)) = false := by simp; omega
    rw [decide_eq_false h1]
    go_enter Tryz.func130, Tryz.ntmps130
    go_wp2_with fail
    go_ret
    exact ⟨rfl, rfl⟩
theorem fits_vis : Fits 130 nameB := ⟨vis_any, enters_of Tryz.func130 (by kernel_rfl) rfl⟩
end Go.Proofs.YtgebkpnieailbaaGreatDoor

/-
  Addresses: the walks of impl's inSpec, nameAndSpec.
-/
namespace Go.Proofs.YtgebkpnieailbaaGreatDoor
set_option linter.unusedVariables false
open Go.RowKit

set_option maxHeartbeats 400000 in
theorem inSpec_any (b : UInt8) (w : World) : Calls Tryz.prog 157 #[.int .u8 (b.toNat : Int)] w fun e w' => e = .returned (.bool (specB b)) ∧ w = w' := by
  have VI := Lib.hid (fun w => vis_any b w)
  unfold specB
  cases hn : nameB b with
  | false =>
    rw [hn] at VI
    clear hn
    go_enter Tryz.func157, Tryz.ntmps157
    go_wp2_with (go_at_call 130; refine (VI.out _).mono ?_; rintro e w' ⟨rfl, rfl⟩)
    go_ret
    exact ⟨rfl, rfl⟩
  | true =>
    rw [hn] at VI
    clear hn
    by_cases h1 : b = 60
    · have d1 : ((b.toNat : Int) != 60) = false := eq_form (c := 60) h1
      rw [show (b == 60) = true by rw [h1]; rfl]
      clear h1
      go_enter Tryz.func157, Tryz.ntmps157
      go_wp2_with (go_at_call 130; refine (VI.out _).mono ?_; rintro e w' ⟨rfl, rfl⟩)
      go_ret
      exact ⟨rfl, rfl⟩
    · have d1 : ((b.toNat : Int) != 60) = true := ne_form (c := 60) h1
      rw [beq_eq_false_iff_ne.2 h1]
      by_cases h2 : b = 62
      · have d2 : ((b.toNat : Int) != 62) = false := eq_form (c := 62) h2
        rw [show (b == 62) = true by rw [h2]; rfl]
        clear h1 h2
        go_enter Tryz.func157, Tryz.ntmps157
        go_wp2_with (go_at_call 130; refine (VI.out _).mono ?_; rintro e w' ⟨rfl, rfl⟩)
        go_ret
        exact ⟨rfl, rfl⟩
      · have d2 : ((b.toNat : Int) != 62) = true := ne_form (c := 62) h2
        rw [beq_eq_false_iff_ne.2 h2]
        clear h1 h2
        go_enter Tryz.func157, Tryz.ntmps157
        go_wp2_with (go_at_call 130; refine (VI.out _).mono ?_; rintro e w' ⟨rfl, rfl⟩)
        go_ret
        exact ⟨rfl, rfl⟩

theorem last_same (s : ByteArray) (b : UInt8) : Lib.lastIndexByte s (b.toNat : Int) = lastI b s.data.toList := by
  have hat : ∀ j, j < s.size → s.data.toList[j]? = some (s.data[j]!) := fun j hj => by
    rw [List.getElem?_eq_getElem (by simpa using hj), getElem!_pos s.data j hj]
    simp
  rcases Lib.lastIndexByte_spec s (b.toNat : Int) with ⟨h1, h2⟩ | ⟨i, h1, h2, h3, h4⟩
  · rw [h1, lastI_none]
    intro j h
    have hj := (List.getElem?_eq_some_iff.1 h).1
    have hj2 : j < s.size := by simpa using hj
    rw [hat j hj2] at h
    exact h2 j hj2 (by rw [Option.some.inj h])
  · rw [h2, lastI_at b _ i]
    · rw [hat i h1]
      congr 1
      exact UInt8.toNat_inj.1 (by omega)
    · intro j hj h
      have hj1 := (List.getElem?_eq_some_iff.1 h).1
      have hj2 : j < s.size := by simpa using hj1
      rw [hat j hj2] at h
      exact h4 j hj hj2 (by rw [Option.some.inj h])
theorem suffix_one (s : ByteArray) (b : UInt8) (h : 0 < s.size) : Lib.hasSuffix s.data.toList [b] = (s[s.size - 1] == b) := by
  rw [← Lib.hasSuffix_of_drop]
  have hl : s.data.toList.length = s.size := by simp
  rw [List.length_singleton, decide_eq_true (by omega), Bool.true_and, hl, List.drop_eq_getElem_cons (by omega), List.drop_eq_nil_of_le (by omega)]
  show ([s[s.size - 1]] == [b]) = _
  simp

set_option maxRecDepth 100000 in
set_option maxHeartbeats 1000000 in
theorem nameSpec_any (s : ByteArray) (w : World) (hs : s.size ≤ 1048576) (h0 : 0 < s.size) :
    Calls Tryz.prog 156 #[.string s] w fun e w' => e = .returned (.tuple #[.string (mkB (twoOf s.data.toList).1), .string (mkB (twoOf s.data.toList).2)]) ∧ Below w.heap.size w w' := by
  have hlen : s.data.toList.length = s.size := by simp
  have LI := Lib.hid (fun w => Tryz.strings_LastIndexByte s (((60 : UInt8).toNat : Nat) : Int) (by omega) w)
  rw [last_same s 60] at LI
  rw [show (((60 : UInt8).toNat : Nat) : Int) = 60 from rfl] at LI
  have SU := Lib.hid (fun w => Tryz.strings_HasSuffix s ⟨#[62]⟩ w (by omega))
  rw [show (⟨#[62]⟩ : ByteArray).data.toList = [62] from rfl, suffix_one s 62 h0] at SU
  have htw : twoOf s.data.toList = if 0 ≤ lastI 60 s.data.toList ∧ s.data.toList.getD (s.data.toList.length - 1) 0 = 62 then (unqL (s.data.toList.take (lastI 60 s.data.toList).toNat), (s.data.toList.drop ((lastI 60 s.data.toList).toNat + 1)).take (s.data.toList.length - 1 - ((lastI 60 s.data.toList).toNat + 1))) else ([], s.data.toList) := rfl
  have hspec := lastI_spec 60 s.data.toList
  generalize lastI 60 s.data.toList = n at LI htw hspec
  rw [hlen, byte_at s (s.size - 1) (by omega)] at htw
  by_cases hneg : n < 0
  · rw [if_neg (by omega)] at htw
    rw [htw]
    have g1 : decide (n < 0) = true := by simpa using hneg
    clear htw hspec hneg hlen
    go_enter Tryz.func156, Tryz.ntmps156
    go_wp2_with (go_at_call 180; refine (LI.out _).mono ?_; rintro e w' ⟨rfl, rfl⟩)
    go_ret2
    exact ⟨rfl, Below.refl _ _⟩
  · have g1 : decide (n < 0) = false := by simpa using hneg
    by_cases h62 : s[s.size - 1] = 62
    · obtain ⟨i, rfl, hi⟩ : ∃ i : Nat, n = (i : Int) ∧ i + 1 ≤ s.size - 1 := by
        rcases hspec with ⟨h, _⟩ | ⟨i, h, h3, h4, _⟩
        · omega
        · refine ⟨i, h, ?_⟩
          rw [hlen] at h3
          by_cases he : i = s.size - 1
          · exfalso
            subst he
            have := byte_some s (s.size - 1) (by omega)
            rw [h4, h62] at this
            cases this
          · omega
      rw [if_pos ⟨by omega, h62⟩, show ((i : Int)).toNat = i by omega] at htw
      rw [htw]
      rw [beq_iff_eq.2 h62] at SU
      have UQ := Lib.hid (fun w => implUnquote_any (s.extract 0 i) w (by rw [ByteArray.size_extract]; omega))
      rw [Lib.extract_data, List.drop_zero, Nat.sub_zero] at UQ
      generalize unqL (s.data.toList.take i) = nm at UQ ⊢
      have j1 : (0 : Int) ≤ (i : Int) := by omega
      have j2 : (i : Int) ≤ (s.size : Int) := by omega
      have j3 : (0 : Int) ≤ (i : Int) + 1 := by omega
      have j4 : (i : Int) + 1 ≤ (s.size : Int) - 1 := by omega
      have j5 : (s.size : Int) - 1 ≤ (s.size : Int) := by omega
      have j6 : (0 : Int) ≤ (s.size : Int) - 1 := by omega
      have j7 : 1 ≤ s.size := by omega
      have j8 : (1 : Int) ≤ (s.size : Int) := by omega
      have hx : mkB ((s.data.toList.drop (i + 1)).take (s.size - 1 - (i + 1))) = s.extract (i + 1) (s.size - 1) := (mkB_extract s (i + 1) (s.size - 1)).symm
      rw [hx]
      clear htw hspec hneg h62 hi hx hlen
      have k1 : ((i : Int) + 1).toNat = i + 1 := by omega
      have k2 : IntKind.i64.wrap ((i : Int) + 1) = (i : Int) + 1 := by rw [IntKind.wrap_i64]; omega
      have k3 : ((s.size : Int) - 1).toNat = s.size - 1 := by omega
      have k4 : IntKind.i64.wrap ((s.size : Int) - 1) = (s.size : Int) - 1 := by rw [IntKind.wrap_i64]; omega
      go_enter Tryz.func156, Tryz.ntmps156
      go_wp2_with (first | (go_at_call 180; refine (LI.out _).mono ?_; rintro e w' ⟨rfl, hw⟩; rw [hw]; clear hw w') | (go_at_call 181; refine (SU.out _).mono ?_; rintro e w' ⟨rfl, hw⟩; rw [hw]; clear hw w'))
      go_region_held3 (fun _ => True) (first | go_keep | exact trivial) (first | (go_at_call 182; refine (UQ.out _).mono ?_; rintro e w1 ⟨rfl, hB1⟩))
      go_wp2_with fail
      go_ret2
      exact ⟨rfl, (Below.refl _ w).drew.trans hB1⟩
    · rw [if_neg (fun h => h62 h.2)] at htw
      rw [htw]
      rw [beq_eq_false_iff_ne.2 h62] at SU
      clear htw hspec hneg h62 hlen
      go_enter Tryz.func156, Tryz.ntmps156
      go_wp2_with (first | (go_at_call 180; refine (LI.out _).mono ?_; rintro e w' ⟨rfl, rfl⟩) | (go_at_call 181; refine (SU.out _).mono ?_; rintro e w' ⟨rfl, rfl⟩))
      go_ret2
      exact ⟨rfl, Below.refl _ _⟩
end Go.Proofs.YtgebkpnieailbaaGreatDoor

/-
  A slice of strings of the call's own.
-/
namespace Go.Proofs.YtgebkpnieailbaaGreatDoor
set_option linter.unusedVariables false
open Go.RowKit

/-- The call hands back a slice that owns the strings l; nothing that was there has turned. -/
def GivesStrs (l : List ByteArray) (w : World) (e : Ending) (w' : World) : Prop :=
  ∃ v, e = .returned v ∧ w'.ownsRow w.heap.size 9 1 v l.length (l.map Value.string) ∧ Below w.heap.size w w'

theorem infoStr : (Tryz.prog.info? 9).map (fun i => (i.zero, i.size, i.bytes)) = some (some (.string ⟨#[]⟩), 1, 16) := by kernel_rfl
end Go.Proofs.YtgebkpnieailbaaGreatDoor

/-
  Addresses: the walk of spec's Commas.
-/
namespace Go.Proofs.YtgebkpnieailbaaGreatDoor
set_option linter.unusedVariables false
open Go.RowKit

/-- Whether a number of backslashes is odd. -/
def oddB (m : Nat) : Bool := decide (m % 2 = 1)
/-- A part, where it is one. -/
def keep1 (x : List UInt8) : List (List UInt8) := if Lib.trimS x [32, 9] = [] then [] else [Lib.trimS x [32, 9]]
/-- What is told from index k on. -/
def comRest (l : List UInt8) (q e : Bool) (j k : Nat) : List (List UInt8) := if k ≤ l.length then keepT (comAt l q e j k) else []
theorem rest_zero (l : List UInt8) : comRest l false false 0 0 = comL l := by
  unfold comRest
  rw [if_pos (Nat.zero_le _), comAt_zero]
theorem rest_sep (l : List UInt8) (e : Bool) (j k : Nat) (h : l[k]? = some 44) : comRest l false e j k = keep1 ((l.drop j).take (k - j)) ++ comRest l false (oddB 0) (k + 1) (k + 1) := by
  have hlt := (List.getElem?_eq_some_iff.1 h).1
  rw [show oddB 0 = false from rfl]
  have e1 : nextQ false e 44 = false := by unfold nextQ; rw [if_neg (by simp)]
  have e2 : nextE e 44 = false := rfl
  unfold comRest
  rw [if_pos (by omega), if_pos (by omega), comAt_sep l false e j k 44 h ⟨rfl, e1⟩, keepT_cons, e1, e2]
  rfl
theorem rest_next (l : List UInt8) (q e q' e' : Bool) (j k : Nat) (b : UInt8) (hjk : j ≤ k) (h : l[k]? = some b) (hn : b ≠ 44 ∨ q' = true) (hq : nextQ q e b = q') (he : nextE e b = e') : comRest l q e j k = comRest l q' e' j (k + 1) := by
  have hlt := (List.getElem?_eq_some_iff.1 h).1
  subst hq
  subst he
  unfold comRest
  rw [if_pos (by omega), if_pos (by omega), comAt_next l q e j k b hjk h (fun hx => by
    rcases hn with h1 | h1
    · exact h1 hx.1
    · rw [hx.2] at h1; cases h1)]
theorem rest_end (l : List UInt8) (q e : Bool) (j k : Nat) (hk : k = l.length) (q' e' : Bool) (j' : Nat) : comRest l q e j k = keep1 ((l.drop j).take (k - j)) ++ comRest l q' e' j' (k + 1) := by
  subst hk
  unfold comRest
  rw [if_pos (Nat.le_refl _), if_neg (by omega), comAt_end, keepT_cons, List.take_of_length_le (by simp)]
  rfl
theorem rest_out (l : List UInt8) (q e : Bool) (j k : Nat) (hk : l.length < k) : comRest l q e j k = [] := by
  unfold comRest
  rw [if_neg (by omega)]
theorem odd_more (m : Nat) : nextE (oddB m) 92 = oddB (m + 1) := by
  unfold nextE oddB
  by_cases h : m % 2 = 1
  · rw [decide_eq_true h, decide_eq_false (by omega)]
    rfl
  · rw [decide_eq_false h, decide_eq_true (by omega)]
    rfl

set_option maxRecDepth 100000 in
set_option maxHeartbeats 4000000 in
theorem specCommas_any (s : ByteArray) (w : World) (hs : s.size ≤ 1048576) :
    Calls Tryz.prog 159 #[.string s] w (GivesStrs ((comL s.data.toList).map mkB) w) := by
  obtain ⟨i0, hi, hz0, hz1, hz2⟩ := info_parts infoStr
  obtain ⟨R, hR⟩ : ∃ R, comL s.data.toList = R := ⟨_, rfl⟩
  rw [hR]
  have HR : Hid ([] ++ comRest s.data.toList false (oddB 0) 0 0 = R) := Lib.hid (by rw [← hR, ← rest_zero]; rfl)
  have hlen : s.data.toList.length = s.size := by simp
  have HLEN := Lib.hid hlen
  clear hR hlen
  go_enter Tryz.func159, Tryz.ntmps159
  go_wp2
  go_loopw [3, 4, 5, 6, 7] (fun o u f m i wr => ∃ (k j c : Nat) (q : Bool) (acc : List (List UInt8)), k ≤ s.size + 1 ∧ j ≤ k ∧ c ≤ k ∧ i = .int .i64 (k : Int) ∧ f = .int .i64 (j : Int) ∧ m = .int .i64 (c : Int) ∧ u = .bool q ∧ Hid (acc ++ comRest s.data.toList q (oddB c) j k = R) ∧ acc.length ≤ k ∧ wr.ownsRow w.heap.size 9 1 o acc.length ((acc.map mkB).map Value.string) ∧ Below w.heap.size w wr) (fun _ _ _ _ i _ => s.size + 1 - (intOf i).toNat)
  case atStart => exact ⟨0, 0, 0, false, [], by omega, by omega, by omega, rfl, rfl, rfl, rfl, HR, Nat.le_refl _, World.ownsRow_lit w #[] 0 (Nat.le_refl _) (by decide) rfl, (Below.refl _ _).alloc (Nat.le_refl _) _⟩
  case round =>
    obtain ⟨k, j, c, q, acc, hk, hj, hc, rfl, rfl, rfl, rfl, HL, hacc, hown, hB⟩ := hrel
    have hsz := hB.size
    clear HR
    have j1 : (0 : Int) ≤ (k : Int) := by omega
    have j0 : (0 : Int) ≤ (j : Int) := by omega
    have jk : (j : Int) ≤ (k : Int) := by omega
    by_cases hlt : k < s.size
    · have d0 : decide ((k : Int) ≤ (s.size : Int)) = true := by simp; omega
      have d1 : decide ((k : Int) < (s.size : Int)) = true := by simp; omega
      have d5 : ((k : Int) == (s.size : Int)) = false := by rw [beq_eq_false_iff_ne]; omega
      have j2 : (k : Int) < (s.size : Int) := by omega
      have j3 : (k : Int) ≤ (s.size : Int) := by omega
      have hb := byte_some s k hlt
      by_cases h34 : s[k] = 34
      · have d2 : ((s[k].toNat : Int) == 34) = true := by rw [h34]; rfl
        have d3 : ((s[k].toNat : Int) == 92) = false := by rw [h34]; rfl
        have d4 : ((s[k].toNat : Int) == 44) = false := by rw [h34]; rfl
        rw [h34] at hb
        by_cases hodd : c % 2 = 1
        · have d6 : ((c : Int) % 2 == 0) = false := by rw [beq_eq_false_iff_ne]; omega
          have hst := rest_next s.data.toList q (oddB c) q (oddB 0) j k 34 hj hb (.inl (by decide)) (by unfold nextQ oddB; rw [if_neg (by simp [hodd])]) rfl
          have HN : Hid (acc ++ comRest s.data.toList q (oddB 0) j (k + 1) = R) := Lib.hid (by rw [← HL.out, hst])
          clear hb h34 hst HL hodd
          go_wp2_with fail
          go_roundw
          case rel => exact ⟨k + 1, j, 0, q, acc, by omega, by omega, by omega, by go_num, by go_num, by go_num, rfl, HN, by omega, hown, hB⟩
          case measure => simp [intOf]; omega
        · have d6 : ((c : Int) % 2 == 0) = true := by rw [beq_iff_eq]; omega
          have hst := rest_next s.data.toList q (oddB c) (!q) (oddB 0) j k 34 hj hb (.inl (by decide)) (by unfold nextQ oddB; rw [if_pos (by simp; omega)]) rfl
          have HN : Hid (acc ++ comRest s.data.toList (!q) (oddB 0) j (k + 1) = R) := Lib.hid (by rw [← HL.out, hst])
          clear hb h34 hst HL hodd
          go_wp2_with fail
          go_roundw
          case rel => exact ⟨k + 1, j, 0, !q, acc, by omega, by omega, by omega, by go_num, by go_num, by go_num, rfl, HN, by omega, hown, hB⟩
          case measure => simp [intOf]; omega
      · have d2 : ((s[k].toNat : Int) == 34) = false := ne_byte (b := 34) h34
        by_cases h92 : s[k] = 92
        · have d3 : ((s[k].toNat : Int) == 92) = true := by rw [h92]; rfl
          have d4 : ((s[k].toNat : Int) == 44) = false := by rw [h92]; rfl
          rw [h92] at hb
          have hst := rest_next s.data.toList q (oddB c) q (oddB (c + 1)) j k 92 hj hb (.inl (by decide)) (by unfold nextQ; rw [if_neg (by simp)]) (odd_more c)
          have HN : Hid (acc ++ comRest s.data.toList q (oddB (c + 1)) j (k + 1) = R) := Lib.hid (by rw [← HL.out, hst])
          clear hb h34 h92 hst HL
          go_wp2_with fail
          go_roundw
          case rel => exact ⟨k + 1, j, c + 1, q, acc, by omega, by omega, by omega, by go_num, by go_num, by go_num, rfl, HN, by omega, hown, hB⟩
          case measure => simp [intOf]; omega
        · have d3 : ((s[k].toNat : Int) == 92) = false := ne_byte (b := 92) h92
          by_cases h44 : s[k] = 44
          · have d4 : ((s[k].toNat : Int) == 44) = true := by rw [h44]; rfl
            rw [h44] at hb
            cases q with
            | true =>
              have hst := rest_next s.data.toList true (oddB c) true (oddB 0) j k 44 hj hb (.inr rfl) (by unfold nextQ; rw [if_neg (by simp)]) rfl
              have HN : Hid (acc ++ comRest s.data.toList true (oddB 0) j (k + 1) = R) := Lib.hid (by rw [← HL.out, hst])
              clear hb h34 h92 h44 hst HL
              go_wp2_with fail
              go_roundw
              case rel => exact ⟨k + 1, j, 0, true, acc, by omega, by omega, by omega, by go_num, by go_num, by go_num, rfl, HN, by omega, hown, hB⟩
              case measure => simp [intOf]; omega
            | false =>
              have hst := rest_sep s.data.toList (oddB c) j k hb
              clear hb h34 h92 h44
              obtain ⟨P, hP⟩ : ∃ P, Lib.trimS ((s.data.toList.drop j).take (k - j)) [32, 9] = P := ⟨_, rfl⟩
              have TR := Lib.hid (fun w => specTrim_any (s.extract j k) w (by rw [ByteArray.size_extract]; omega))
              rw [Lib.extract_data, hP, show (⟨P.toArray⟩ : ByteArray) = mkB P from rfl] at TR
              unfold keep1 at hst
              rw [hP] at hst
              clear hP
              cases P with
              | nil =>
                obtain ⟨P, hP0⟩ : ∃ P : List UInt8, P = [] := ⟨_, rfl⟩
                have hue : (mkB P).toList.isEmpty = true := by rw [Lib.toList_data, mkB_list, hP0]; rfl
                rw [if_pos rfl, List.nil_append] at hst
                have HN : Hid (acc ++ comRest s.data.toList false (oddB 0) (k + 1) (k + 1) = R) := Lib.hid (by rw [← HL.out, hst])
                rw [← hP0] at TR
                clear hst HL hP0
                go_wp2_with fail
                refine (TR.out _).mono ?_
                rintro e w2 ⟨rfl, hw⟩
                rw [hw]
                clear hw w2
                go_wp2_with fail
                go_roundw
                case rel => exact ⟨k + 1, k + 1, 0, false, acc, by omega, by omega, by omega, by go_num, by go_num, by go_num, rfl, HN, by omega, hown, hB⟩
                case measure => simp [intOf]; omega
              | cons y P' =>
                obtain ⟨P, hP0⟩ : ∃ P : List UInt8, P = y :: P' := ⟨_, rfl⟩
                have hue : (mkB P).toList.isEmpty = false := by rw [Lib.toList_data, mkB_list, hP0]; rfl
                rw [if_neg (by simp), ← hP0] at hst
                have HN : Hid ((acc ++ [P]) ++ comRest s.data.toList false (oddB 0) (k + 1) (k + 1) = R) := Lib.hid (by rw [← HL.out, hst, List.append_assoc])
                rw [← hP0] at TR
                clear hst HL hP0
                go_wp2_with fail
                refine (TR.out _).mono ?_
                rintro e w2 ⟨rfl, hw⟩
                rw [hw]
                clear hw w2
                go_wp2_with (first | (at_builtin; refine wpList_append_own _ rfl _ _ 104 rfl w.heap.size 9 i0 (.string ⟨#[]⟩) 1 16 Tryz.underlying104 hi hz0 hz1 hz2 rfl (by decide) _ _ _ rfl (hown.alloc _) ⟨wr.heap.size, 0, none⟩ 1 1 [.string (mkB P)] rfl rfl (cell_one_new _ _ _) (by simp [Value.oneCell']) (by unfold maxLen; omega) (by omega) (by simp; omega) ?_; intro v3 w3 hO3 hg3 _; have hB3 : Below w.heap.size w w3 := (hB.alloc hsz _).grown hg3 (by simp; omega) (fun k e => (hown.lt k e).1)))
                have hrow : w3.ownsRow w.heap.size 9 1 v3 (acc ++ [P]).length (((acc ++ [P]).map mkB).map Value.string) := by simpa using hO3
                clear hown hO3 hg3
                go_wp2_with fail
                go_roundw
                case rel => exact ⟨k + 1, k + 1, 0, false, acc ++ [P], by omega, by omega, by omega, by go_num, by go_num, by go_num, rfl, HN, by simp; omega, hrow, hB3⟩
                case measure => simp [intOf]; omega
          · have d4 : ((s[k].toNat : Int) == 44) = false := ne_byte (b := 44) h44
            have hst := rest_next s.data.toList q (oddB c) q (oddB 0) j k _ hj hb (.inl h44) (by unfold nextQ; rw [if_neg (by simp [h34])]) (by unfold nextE; rw [beq_eq_false_iff_ne.2 h92]; rfl)
            have HN : Hid (acc ++ comRest s.data.toList q (oddB 0) j (k + 1) = R) := Lib.hid (by rw [← HL.out, hst])
            clear hb h34 h92 h44 hst HL
            go_wp2_with fail
            go_roundw
            case rel => exact ⟨k + 1, j, 0, q, acc, by omega, by omega, by omega, by go_num, by go_num, by go_num, rfl, HN, by omega, hown, hB⟩
            case measure => simp [intOf]; omega
    · by_cases heq : k = s.size
      · have d0 : decide ((k : Int) ≤ (s.size : Int)) = true := by simp; omega
        have d1 : decide ((k : Int) < (s.size : Int)) = false := by simp; omega
        have d5 : ((k : Int) == (s.size : Int)) = true := by rw [beq_iff_eq]; omega
        have j3 : (k : Int) ≤ (s.size : Int) := by omega
        have hst := rest_end s.data.toList q (oddB c) j k (by rw [HLEN.out]; exact heq) q (oddB 0) (k + 1)
        have hks : s.size ≤ k := by omega
        have hks2 : k ≤ s.size := by omega
        clear heq hlt
        obtain ⟨P, hP⟩ : ∃ P, Lib.trimS ((s.data.toList.drop j).take (k - j)) [32, 9] = P := ⟨_, rfl⟩
        have TR := Lib.hid (fun w => specTrim_any (s.extract j k) w (by rw [ByteArray.size_extract]; omega))
        rw [Lib.extract_data, hP, show (⟨P.toArray⟩ : ByteArray) = mkB P from rfl] at TR
        unfold keep1 at hst
        rw [hP] at hst
        clear hP
        cases P with
        | nil =>
          obtain ⟨P, hP0⟩ : ∃ P : List UInt8, P = [] := ⟨_, rfl⟩
          have hue : (mkB P).toList.isEmpty = true := by rw [Lib.toList_data, mkB_list, hP0]; rfl
          rw [if_pos rfl, List.nil_append] at hst
          have HN : Hid (acc ++ comRest s.data.toList q (oddB 0) (k + 1) (k + 1) = R) := Lib.hid (by rw [← HL.out, hst])
          rw [← hP0] at TR
          clear hst HL hP0
          go_wp2_with fail
          refine (TR.out _).mono ?_
          rintro e w2 ⟨rfl, hw⟩
          rw [hw]
          clear hw w2
          go_wp2_with fail
          go_roundw
          case rel => exact ⟨k + 1, k + 1, 0, q, acc, by omega, by omega, by omega, by go_num, by go_num, by go_num, rfl, HN, by omega, hown, hB⟩
          case measure => simp [intOf]; omega
        | cons y P' =>
          obtain ⟨P, hP0⟩ : ∃ P : List UInt8, P = y :: P' := ⟨_, rfl⟩
          have hue : (mkB P).toList.isEmpty = false := by rw [Lib.toList_data, mkB_list, hP0]; rfl
          rw [if_neg (by simp), ← hP0] at hst
          have HN : Hid ((acc ++ [P]) ++ comRest s.data.toList q (oddB 0) (k + 1) (k + 1) = R) := Lib.hid (by rw [← HL.out, hst, List.append_assoc])
          rw [← hP0] at TR
          clear hst HL hP0
          go_wp2_with fail
          refine (TR.out _).mono ?_
          rintro e w2 ⟨rfl, hw⟩
          rw [hw]
          clear hw w2
          go_wp2_with (first | (at_builtin; refine wpList_append_own _ rfl _ _ 104 rfl w.heap.size 9 i0 (.string ⟨#[]⟩) 1 16 Tryz.underlying104 hi hz0 hz1 hz2 rfl (by decide) _ _ _ rfl (hown.alloc _) ⟨wr.heap.size, 0, none⟩ 1 1 [.string (mkB P)] rfl rfl (cell_one_new _ _ _) (by simp [Value.oneCell']) (by unfold maxLen; omega) (by omega) (by simp; omega) ?_; intro v3 w3 hO3 hg3 _; have hB3 : Below w.heap.size w w3 := (hB.alloc hsz _).grown hg3 (by simp; omega) (fun k e => (hown.lt k e).1)))
          have hrow : w3.ownsRow w.heap.size 9 1 v3 (acc ++ [P]).length (((acc ++ [P]).map mkB).map Value.string) := by simpa using hO3
          clear hown hO3 hg3
          go_wp2_with fail
          go_roundw
          case rel => exact ⟨k + 1, k + 1, 0, q, acc ++ [P], by omega, by omega, by omega, by go_num, by go_num, by go_num, rfl, HN, by simp; omega, hrow, hB3⟩
          case measure => simp [intOf]; omega
      · have d0 : decide ((k : Int) ≤ (s.size : Int)) = false := by simp; omega
        have HQ : Hid (acc = R) := Lib.hid (by
          have := HL.out
          rw [rest_out _ _ _ _ _ (by have := HLEN.out; omega), List.append_nil] at this
          exact this)
        clear HL
        go_wp2_with fail
        go_ret
        exact ⟨_, rfl, by rw [← HQ.out]; simpa using hown, hB⟩
end Go.Proofs.YtgebkpnieailbaaGreatDoor

/-
  A row that lies in a box, appended to inside a range over an iterator.
-/
namespace Go.Proofs.YtgebkpnieailbaaGreatDoor
set_option linter.unusedVariables false
open Go.RowKit Go.Shelf
attribute [local go_sem] Oper.semAt_some

theorem rowLe {w : World} {base base' : Nat} {e : TypeId} {size : Nat} {v : Value} {n : Nat} {xs : List Value} (h : w.ownsRow base e size v n xs) (hb : base' ≤ base) : w.ownsRow base' e size v n xs := by
  obtain ⟨h1, h2⟩ := h
  refine ⟨h1, h2.imp id ?_⟩
  rintro ⟨g, cap, cur, e1, e2, e3⟩
  exact ⟨g, cap, cur, e1, Nat.le_trans hb e2, e3⟩

/-- A row that lies behind every box: what an append to it, and the store of the new slice into its box, leave. -/
theorem boxApp {W w1 : World} {n₀ n₁ B : Nat} {t e : TypeId} {size : Nat} {v v' : Value} {k m : Nat} {xs ys : List Value} {tmp : Obj}
    (hv : Boxed W B t v) (hte : t ≠ e) (hrow : W.ownsRow n₁ e size v k xs) (h01 : n₀ ≤ n₁) (h0 : n₀ ≤ W.heap.size) (hB : n₀ ≤ B)
    (hown' : w1.ownsRow n₁ e size v' m ys) (hgrow : (W.alloc tmp).grownBy w1 v.ownBlock) :
    Boxed w1 B t v ∧ Boxed (w1.setCell ⟨B, 0, none⟩ v') B t v' ∧ (w1.setCell ⟨B, 0, none⟩ v').ownsRow n₁ e size v' m ys ∧ KeepsOthers W (w1.setCell ⟨B, 0, none⟩ v') ∧ Below n₀ W (w1.setCell ⟨B, 0, none⟩ v') ∧
      ∀ j, j < W.heap.size → j < n₁ → j ≠ B → (w1.setCell ⟨B, 0, none⟩ v').heap[j]? = W.heap[j]? := by
  obtain ⟨h1, h2, h3, h4, h5⟩ := hv.appended hte (rowLe hrow h01) h0 hB (rowLe hown' h01) hgrow
  refine ⟨h1, h2, hown'.kept (grownBy_setCell' w1 B v') (.inr (h1.not_row hte hown').symm), h4, h5, fun j hj hj1 hjB => ?_⟩
  rw [Below.heap_setCell _ _ _ _ hjB, hgrow.block j (by simp; omega) (fun e' => by have := (hrow.lt j e'.symm).1; omega)]
  exact Below.heap_alloc _ _ _ hj

end Go.Proofs.YtgebkpnieailbaaGreatDoor

/-
  Addresses: the walks of impl's Commas and its two functions within.
-/
namespace Go.Proofs.YtgebkpnieailbaaGreatDoor
set_option linter.unusedVariables false
open Go.RowKit

/-- What a call to keep leaves: the list, longer by the part, if it is one. -/
def Keeps (B : Nat) (n₁ : Nat) (acc : List (List UInt8)) (w w' : World) : Prop :=
  ∃ v, Boxed w' B 104 v ∧ w'.ownsRow n₁ 9 1 v acc.length ((acc.map mkB).map Value.string) ∧ Below B w w' ∧ ∀ j, j < w.heap.size → j < n₁ → j ≠ B → w'.heap[j]? = w.heap[j]?

set_option maxRecDepth 100000 in
set_option maxHeartbeats 1000000 in
theorem keep_any (p : ByteArray) (B n₁ : Nat) (acc : List (List UInt8)) (v : Value) (w : World) (hp : p.size ≤ 1048576) (ha : acc.length ≤ 1048578) (hBn : B < n₁) (hn : n₁ ≤ w.heap.size)
    (hv : Boxed w B 104 v) (hrow : w.ownsRow n₁ 9 1 v acc.length ((acc.map mkB).map Value.string)) :
    Calls Tryz.prog 178 #[.string p, .pointer (some ⟨B, 0, none⟩)] w fun e w' => e = .returned (.tuple #[]) ∧ Keeps B n₁ (acc ++ keep1 p.data.toList) w w' := by
  obtain ⟨i0, hi, hz0, hz1, hz2⟩ := info_parts infoStr
  have TR := Lib.hid (fun w => implTrim_any p w (by omega))
  unfold keep1
  generalize Lib.trimS p.data.toList [32, 9] = P at TR ⊢
  rw [show (⟨P.toArray⟩ : ByteArray) = mkB P from rfl] at TR
  have HV := Lib.hid hv
  have HROW := Lib.hid hrow
  clear hv hrow
  cases P with
  | nil =>
    obtain ⟨P, hP0⟩ : ∃ P : List UInt8, P = [] := ⟨_, rfl⟩
    have hue : (mkB P).toList.isEmpty = true := by rw [Lib.toList_data, mkB_list, hP0]; rfl
    rw [if_pos rfl, List.append_nil]
    rw [← hP0] at TR
    clear hP0
    go_enter Tryz.func178, Tryz.ntmps178
    go_wp2_with fail
    refine (TR.out _).mono ?_
    rintro e w2 ⟨rfl, hB2⟩
    go_wp2_with fail
    go_end0
    have hBl := HV.out.lt
    exact ⟨rfl, v, (hB2.block _ hBl).trans HV.out, row_below HROW.out hB2, hB2.mono (by omega), fun j hj _ _ => hB2.block j hj⟩
  | cons y P' =>
    obtain ⟨P, hP0⟩ : ∃ P : List UInt8, P = y :: P' := ⟨_, rfl⟩
    have hue : (mkB P).toList.isEmpty = false := by rw [Lib.toList_data, mkB_list, hP0]; rfl
    rw [if_neg (by simp), ← hP0]
    rw [← hP0] at TR
    clear hP0
    go_enter Tryz.func178, Tryz.ntmps178
    go_wp2_with fail
    refine (TR.out _).mono ?_
    rintro e w2 ⟨rfl, hB2⟩
    have hv2 : Boxed w2 B 104 v := (hB2.block _ HV.out.lt).trans HV.out
    have hrow2 := row_below HROW.out hB2
    have hc := hv2.cell
    have HV2 := Lib.hid hv2
    have hs2 := hB2.size
    clear hv2
    go_wp2_with (at_builtin; refine wpList_append_own _ rfl _ _ 104 rfl n₁ 9 i0 (.string ⟨#[]⟩) 1 16 Tryz.underlying104 hi hz0 hz1 hz2 rfl (by decide) _ _ _ rfl (hrow2.alloc _) ⟨w2.heap.size, 0, none⟩ 1 1 [.string (mkB P)] rfl rfl (cell_one_new _ _ _) (by simp [Value.oneCell']) (by unfold maxLen; omega) (by omega) (by simp; omega) ?_; intro v' w1 hown' hgrow _; obtain ⟨g', cap', rfl⟩ := ownsRow_succ hown'; obtain ⟨hv1, hv3, hr3, hk3, hb3, hkeep⟩ := boxApp HV2.out (by decide) hrow2 (Nat.le_of_lt hBn) (Nat.le_of_lt HV2.out.lt) (Nat.le_refl _) hown' hgrow; have hc1 := hv1.cell; have hf1 := hv1.frozen)
    go_end0
    exact ⟨rfl, _, hv3, by simpa using hr3, (hB2.mono (by omega)).trans hb3, fun j hj h1 h2 => (hkeep j (by omega) h1 h2).trans (hB2.block j hj)⟩

theorem boxed_other {w : World} {Q E : Nat} {t : TypeId} {v : Value} (h : Boxed w Q t v) (hne : Q ≠ E) (u : Value) : Boxed (w.setCell ⟨E, 0, none⟩ u) Q t v := (Below.heap_setCell w _ u Q hne).trans h
/-- What a call to the separator leaves. -/
structure SepDid (Q E : Nat) (q e : Bool) (w w' : World) : Prop where
  quo : Boxed w' Q 4 (.bool q)
  esc : Boxed w' E 4 (.bool e)
  size : w'.heap.size = w.heap.size
  rest : ∀ j, j ≠ Q → j ≠ E → w'.heap[j]? = w.heap[j]?
  os : w'.os = w.os
  tape : w'.tape = w.tape
  output : w'.output = w.output
theorem sep_one {Q E : Nat} {q e : Bool} {w : World} (hQ : Boxed w Q 4 (.bool q)) (hE : Boxed w E 4 (.bool e)) (hne : Q ≠ E) (e' : Bool) : SepDid Q E q e' w (w.setCell ⟨E, 0, none⟩ (.bool e')) :=
  ⟨boxed_other hQ hne _, hE.set _, by simp [World.setCell], fun j _ h => Below.heap_setCell w _ _ j h, rfl, rfl, rfl⟩
theorem sep_both {Q E : Nat} {q e : Bool} {w : World} (hQ : Boxed w Q 4 (.bool q)) (hE : Boxed w E 4 (.bool e)) (hne : Q ≠ E) (q' e' : Bool) : SepDid Q E q' e' w ((w.setCell ⟨Q, 0, none⟩ (.bool q')).setCell ⟨E, 0, none⟩ (.bool e')) :=
  ⟨boxed_other (hQ.set _) hne _, (boxed_other hE hne.symm _).set _, by simp [World.setCell], fun j h1 h2 => (Below.heap_setCell _ _ _ j h2).trans (Below.heap_setCell w _ _ j h1), rfl, rfl, rfl⟩

set_option maxRecDepth 100000 in
set_option maxHeartbeats 2000000 in
theorem sep_any (b : UInt8) (q e : Bool) (Q E : Nat) (w : World) (hQ : Boxed w Q 4 (.bool q)) (hE : Boxed w E 4 (.bool e)) (hne : Q ≠ E) :
    Calls Tryz.prog 204 #[.int .u8 (b.toNat : Int), .pointer (some ⟨E, 0, none⟩), .pointer (some ⟨Q, 0, none⟩)] w fun r w' => r = .returned (.bool ((b == 44) && !(nextQ q e b))) ∧ SepDid Q E (nextQ q e b) (nextE e b) w w' := by
  have HQ := Lib.hid hQ
  have HE := Lib.hid hE
  have c1 := hQ.cell
  have c2 := hE.cell
  have f1 := hQ.frozen
  have f2 := hE.frozen
  have s1 : ∀ x, (w.setCell ⟨Q, 0, none⟩ (.bool x)).cell? ⟨E, 0, none⟩ = some (.bool e) := fun x => (boxed_other hE hne.symm _).cell
  have s2 : ∀ x, (w.setCell ⟨Q, 0, none⟩ (.bool x)).frozen? ⟨E, 0, none⟩ = false := fun x => (boxed_other hE hne.symm _).frozen
  have s3 : ∀ x, (w.setCell ⟨Q, 0, none⟩ (.bool x)).cell? ⟨Q, 0, none⟩ = some (.bool x) := fun x => (hQ.set _).cell
  have s4 : ∀ x y, ((w.setCell ⟨Q, 0, none⟩ (.bool x)).setCell ⟨E, 0, none⟩ (.bool y)).cell? ⟨Q, 0, none⟩ = some (.bool x) := fun x y => (boxed_other (hQ.set _) hne _).cell
  have s5 : ∀ y, (w.setCell ⟨E, 0, none⟩ (.bool y)).cell? ⟨Q, 0, none⟩ = some (.bool q) := fun y => (boxed_other hQ hne _).cell
  clear hQ hE
  by_cases h34 : b = 34
  · subst h34
    cases e with
    | false =>
      have HN := Lib.hid hne
      clear hne
      go_enter Tryz.func204, Tryz.ntmps204
      go_wp2_with fail
      go_ret
      exact ⟨rfl, sep_both HQ.out HE.out HN.out _ _⟩
    | true =>
      have HN := Lib.hid hne
      clear hne
      go_enter Tryz.func204, Tryz.ntmps204
      go_wp2_with fail
      go_ret
      exact ⟨rfl, sep_one HQ.out HE.out HN.out _⟩
  · have hnq : nextQ q e b = q := by unfold nextQ; rw [if_neg (fun h => h34 h.1)]
    rw [hnq]
    have d1 : ((b.toNat : Int) == 34) = false := ne_byte (b := 34) h34
    have HN := Lib.hid hne
    by_cases h92 : b = 92
    · subst h92
      have e1 : ((92 : UInt8) == 44) = false := rfl
      rw [show nextE e 92 = !e from by simp [nextE]]
      clear hne hnq h34 d1
      go_enter Tryz.func204, Tryz.ntmps204
      go_wp2_with fail
      go_ret
      exact ⟨rfl, sep_one HQ.out HE.out HN.out _⟩
    · have d2 : ((b.toNat : Int) == 92) = false := ne_byte (b := 92) h92
      rw [show nextE e b = false from by simp [nextE, h92]]
      by_cases h44 : b = 44
      · subst h44
        clear hne hnq h34 h92 d1 d2
        go_enter Tryz.func204, Tryz.ntmps204
        go_wp2_with fail
        go_ret
        exact ⟨rfl, sep_one HQ.out HE.out HN.out _⟩
      · have d3 : ((b.toNat : Int) == 44) = false := ne_byte (b := 44) h44
        rw [beq_eq_false_iff_ne.2 h44]
        clear hne hnq h34 h92 h44
        go_enter Tryz.func204, Tryz.ntmps204
        go_wp2_with fail
        go_ret
        exact ⟨rfl, sep_one HQ.out HE.out HN.out _⟩

/-- What separator makes: its two variables, and the function that has them. -/
theorem separator_any (w : World) :
    Calls Tryz.prog 179 #[] w fun r w' => r = .returned (.func (.func 204) #[] #[.pointer (some ⟨w.heap.size + 1, 0, none⟩), .pointer (some ⟨w.heap.size, 0, none⟩)]) ∧ Boxed w' w.heap.size 4 (.bool false) ∧ Boxed w' (w.heap.size + 1) 4 (.bool false) ∧ Below w.heap.size w w' ∧ w'.heap.size = w.heap.size + 2 := by
  go_enter Tryz.func179, Tryz.ntmps179
  go_wp2_with fail
  go_ret
  refine ⟨rfl, (Boxed.new w _ _).alloc _, ?_, ((Below.refl _ _).alloc (Nat.le_refl _) _).alloc (by simp) _, by simp⟩
  have h := Boxed.new (w.alloc (.cells #[.bool false] 4)) 4 (.bool false)
  rwa [World.size_alloc] at h

theorem SepDid.row {Q E : Nat} {q e : Bool} {w w' : World} (h : SepDid Q E q e w w') {n₁ k n : Nat} {T : TypeId} {v : Value} {xs : List Value} (hr : w.ownsRow n₁ T k v n xs) (h1 : Q < n₁) (h2 : E < n₁) : w'.ownsRow n₁ T k v n xs := by
  obtain ⟨a, b⟩ := hr
  refine ⟨a, b.imp id ?_⟩
  rintro ⟨g, cap, cur, rfl, hb, hg, r⟩
  exact ⟨g, cap, cur, rfl, hb, (h.rest g (by omega) (by omega)).trans hg, r⟩
theorem SepDid.below {Q E : Nat} {q e : Bool} {w w' : World} (h : SepDid Q E q e w w') {B : Nat} (h1 : B ≤ Q) (h2 : B ≤ E) : Below B w w' :=
  ⟨h.os, h.tape, h.output, by rw [h.size]; exact Nat.le_refl _, fun j hj => h.rest j (by omega) (by omega)⟩
/-- What the loop keeps. -/
structure ComW (w wr : World) (q e : Bool) (acc : List (List UInt8)) : Prop where
  box : ∃ v, Boxed wr w.heap.size 104 v ∧ wr.ownsRow (w.heap.size + 3) 9 1 v acc.length ((acc.map mkB).map Value.string)
  quo : Boxed wr (w.heap.size + 1) 4 (.bool q)
  esc : Boxed wr (w.heap.size + 1 + 1) 4 (.bool e)
  size : w.heap.size + 3 ≤ wr.heap.size
  below : Below w.heap.size w wr
theorem ComW.sep {w wr w' : World} {q e q' e' : Bool} {acc : List (List UInt8)} (h : ComW w wr q e acc) (h2 : SepDid (w.heap.size + 1) (w.heap.size + 1 + 1) q' e' wr w') : ComW w w' q' e' acc := by
  obtain ⟨v, hv, hr⟩ := h.box
  exact ⟨⟨v, (h2.rest _ (by omega) (by omega)).trans hv, h2.row hr (by omega) (by omega)⟩, h2.quo, h2.esc, by rw [h2.size]; exact h.size, h.below.trans (h2.below (by omega) (by omega))⟩
theorem ComW.keep {w wr w' : World} {q e : Bool} {acc acc' : List (List UInt8)} (h : ComW w wr q e acc) (h2 : Keeps w.heap.size (w.heap.size + 3) acc' wr w') : ComW w w' q e acc' := by
  obtain ⟨v, hv, hr, hb, hk⟩ := h2
  have hs := h.size
  exact ⟨⟨v, hv, hr⟩, (hk _ (by omega) (by omega) (by omega)).trans h.quo, (hk _ (by omega) (by omega) (by omega)).trans h.esc, Nat.le_trans hs hb.size, h.below.trans hb⟩

set_option maxRecDepth 100000 in
set_option maxHeartbeats 2000000 in
theorem implCommas_any (s : ByteArray) (w : World) (hs : s.size ≤ 1048576) :
    Calls Tryz.prog 155 #[.string s] w (GivesStrs ((comL s.data.toList).map mkB) w) := by
  obtain ⟨R, hR⟩ : ∃ R, comL s.data.toList = R := ⟨_, rfl⟩
  rw [hR]
  have HR : Hid ([] ++ comRest s.data.toList false false 0 0 = R) := Lib.hid (by rw [← hR, ← rest_zero]; rfl)
  have hlen : s.data.toList.length = s.size := by simp
  have HLEN := Lib.hid hlen
  clear hR hlen
  go_enter Tryz.func155, Tryz.ntmps155
  go_wp2_with fail
  refine (separator_any _).mono ?_
  rintro e w1 ⟨rfl, hq1, he1, hB1, hz1⟩
  rw [World.size_alloc] at hq1 he1 hB1 hz1 ⊢
  have hl1 : Boxed w1 w.heap.size 104 (.slice none 0 0) := (hB1.block _ (by omega)).trans (Boxed.new w _ _)
  have hB2 : Below w.heap.size w w1 := ((Below.refl _ w).alloc (Nat.le_refl _) _).trans (hB1.mono (by omega))
  have HQ1 := Lib.hid hq1
  have HE1 := Lib.hid he1
  have HL1 := Lib.hid hl1
  have HB2 := Lib.hid hB2
  have HZ1 := Lib.hid hz1
  clear hq1 he1 hB1 hz1 hl1 hB2
  go_wp2_with fail
  go_loopw [6, 12] (fun f i wr => ∃ (k j : Nat) (q e : Bool) (acc : List (List UInt8)), k ≤ s.size ∧ j ≤ k ∧ i = .int .i64 (k : Int) ∧ f = .int .i64 (j : Int) ∧ Hid (acc ++ comRest s.data.toList q e j k = R) ∧ acc.length ≤ k ∧ Hid (ComW w wr q e acc)) (fun _ i _ => s.size - (intOf i).toNat)
  case atStart => exact ⟨0, 0, false, false, [], by omega, by omega, rfl, rfl, HR, Nat.le_refl _, Lib.hid ⟨⟨_, HL1.out, World.ownsRow_nil _ _ _ _⟩, HQ1.out, HE1.out, by rw [HZ1.out]; omega, HB2.out⟩⟩
  case round =>
    obtain ⟨k, j, q, e, acc, hk, hj, rfl, rfl, HL, hacc, HW⟩ := hrel
    clear HR HQ1 HE1 HL1 HB2 HZ1
    have j1 : (0 : Int) ≤ (k : Int) := by omega
    have j0 : (0 : Int) ≤ (j : Int) := by omega
    have jk : (j : Int) ≤ (k : Int) := by omega
    by_cases hlt : k < s.size
    · have d1 : decide ((k : Int) < (s.size : Int)) = true := by simp; omega
      have j2 : (k : Int) < (s.size : Int) := by omega
      have j3 : (k : Int) ≤ (s.size : Int) := by omega
      have hb := byte_some s k hlt
      have SE := Lib.hid (fun wx hQ hE => sep_any s[k] q e (w.heap.size + 1) (w.heap.size + 1 + 1) wx hQ hE (by omega))
      by_cases hsep : s[k] = 44 ∧ q = false
      · obtain ⟨h44, rfl⟩ := hsep
        rw [h44] at hb
        have hst := rest_sep s.data.toList e j k hb
        have HN : Hid ((acc ++ keep1 ((s.data.toList.drop j).take (k - j))) ++ comRest s.data.toList false false (k + 1) (k + 1) = R) := Lib.hid (by rw [← HL.out, hst, List.append_assoc]; rfl)
        have KE := Lib.hid (fun wx v hn hv hr => keep_any (s.extract j k) w.heap.size (w.heap.size + 3) acc v wx (by rw [ByteArray.size_extract]; omega) (by omega) (by omega) hn hv hr)
        rw [Lib.extract_data] at KE
        have hkl : (keep1 ((s.data.toList.drop j).take (k - j))).length ≤ 1 := by unfold keep1; split <;> simp
        generalize keep1 ((s.data.toList.drop j).take (k - j)) = X at HN KE hkl
        have e1 : nextQ false e s[k] = false := by rw [h44]; unfold nextQ; rw [if_neg (by simp)]
        have e2 : nextE e s[k] = false := by rw [h44]; rfl
        have e3 : ((s[k] == 44) && !false) = true := by rw [h44]; rfl
        rw [e1, e2, e3] at SE
        clear hb h44 hst HL e1 e2 e3
        go_wp2_with (first | (go_at_call 204; refine (SE.out _ HW.out.quo HW.out.esc).mono ?_; rintro r w2 ⟨rfl, hsd⟩))
        have HW2 := Lib.hid (HW.out.sep hsd)
        obtain ⟨v, hv, hr⟩ := HW2.out.box
        refine (KE.out _ _ HW2.out.size hv hr).mono ?_
        rintro r w3 ⟨rfl, hke⟩
        have HW3 := Lib.hid (HW2.out.keep hke)
        clear hsd hv hr hke
        go_wp2_with fail
        go_roundw
        case rel => exact ⟨k + 1, k + 1, false, false, acc ++ X, by omega, by omega, by go_num, by go_num, HN, by simp; omega, HW3⟩
        case measure => simp [intOf]; omega
      · have hst := rest_next s.data.toList q e (nextQ q e s[k]) (nextE e s[k]) j k _ hj hb (by
          by_cases h44 : s[k] = 44
          · right
            have hq : q = true := by cases q with
              | true => rfl
              | false => exact absurd ⟨h44, rfl⟩ hsep
            rw [h44, hq]
            unfold nextQ
            rw [if_neg (by simp)]
          · exact .inl h44) rfl rfl
        have hf : ((s[k] == 44) && !(nextQ q e s[k])) = false := by
          by_cases h44 : s[k] = 44
          · have hq : q = true := by cases q with
              | true => rfl
              | false => exact absurd ⟨h44, rfl⟩ hsep
            rw [h44, hq]
            unfold nextQ
            rw [if_neg (by simp)]
            rfl
          · rw [beq_eq_false_iff_ne.2 h44]
            rfl
        rw [hf] at SE
        generalize nextQ q e s[k] = q' at SE hst
        generalize nextE e s[k] = e' at SE hst
        have HN : Hid (acc ++ comRest s.data.toList q' e' j (k + 1) = R) := Lib.hid (by rw [← HL.out, hst])
        clear hb hst HL hf hsep
        go_wp2_with (first | (go_at_call 204; refine (SE.out _ HW.out.quo HW.out.esc).mono ?_; rintro r w2 ⟨rfl, hsd⟩))
        have HW2 := Lib.hid (HW.out.sep hsd)
        clear hsd
        go_roundw
        case rel => exact ⟨k + 1, j, q', e', acc, by omega, by omega, by go_num, by go_num, HN, by omega, HW2⟩
        case measure => simp [intOf]; omega
    · have d1 : decide ((k : Int) < (s.size : Int)) = false := by simp; omega
      have j3 : (j : Int) ≤ (s.size : Int) := by omega
      have hst := rest_end s.data.toList q e j k (by have := HLEN.out; omega) q e (k + 1)
      rw [rest_out s.data.toList q e (k + 1) (k + 1) (by have := HLEN.out; omega), List.append_nil] at hst
      have KE := Lib.hid (fun wx v hn hv hr => keep_any (s.extract j s.size) w.heap.size (w.heap.size + 3) acc v wx (by rw [ByteArray.size_extract]; omega) (by omega) (by omega) hn hv hr)
      rw [Lib.extract_data, show s.size - j = k - j by omega] at KE
      have HN : Hid (acc ++ keep1 ((s.data.toList.drop j).take (k - j)) = R) := Lib.hid (by rw [← HL.out, hst])
      generalize keep1 ((s.data.toList.drop j).take (k - j)) = X at HN KE
      obtain ⟨v, hv, hr⟩ := HW.out.box
      clear HL hst
      go_wp2_with fail
      refine (KE.out _ _ HW.out.size hv hr).mono ?_
      rintro r w3 ⟨rfl, hke⟩
      have HW3 := Lib.hid (HW.out.keep hke)
      clear hke hv hr
      obtain ⟨v3, hv3, hr3⟩ := HW3.out.box
      have c3 := hv3.cell
      go_wp2_with fail
      go_ret
      exact ⟨v3, rfl, by rw [← HN.out]; simpa using rowLe hr3 (by omega), HW3.out.below⟩
end Go.Proofs.YtgebkpnieailbaaGreatDoor

/-
  Addresses: the walk of spec's l06Last.
-/
namespace Go.Proofs.YtgebkpnieailbaaGreatDoor
set_option linter.unusedVariables false
open Go.RowKit

set_option maxRecDepth 100000 in
set_option maxHeartbeats 400000 in
theorem last_any (s : ByteArray) (b : UInt8) (w : World) (hs : s.size ≤ 1048576) :
    Calls Tryz.prog 183 #[.string s, .int .u8 (b.toNat : Int)] w fun e w' => e = .returned (.int .i64 (lastI b s.data.toList)) ∧ w' = w := by
  obtain ⟨R, hR⟩ : ∃ R, lastI b s.data.toList = R := ⟨_, rfl⟩
  have HR := Lib.hid hR
  rw [hR]
  have hlen : s.data.toList.length = s.size := by simp
  have HLEN := Lib.hid hlen
  clear hR hlen
  go_enter Tryz.func183, Tryz.ntmps183
  go_wp2
  go_loop [5] (fun a => ∃ i : Int, -1 ≤ i ∧ i < (s.size : Int) ∧ a = .int .i64 i ∧ Hid (∀ j : Nat, i < (j : Int) → s.data.toList[j]? ≠ some b)) (fun a => (intOf a + 1).toNat)
  case atStart =>
    refine ⟨(s.size : Int) - 1, by omega, by omega, rfl, Lib.hid (fun j hj h => ?_)⟩
    have := (List.getElem?_eq_some_iff.1 h).1
    rw [HLEN.out] at this
    omega
  case round =>
    obtain ⟨i, h1, h2, rfl, HN⟩ := hrel
    by_cases h0 : i < 0
    · have g0 : decide ((0 : Int) ≤ i) = false := by simp; omega
      have HQ : Hid (R = -1) := Lib.hid (by rw [← HR.out]; exact lastI_none b _ (fun j => HN.out j (by omega)))
      clear HR HN
      go_wp2_with fail
      go_ret
      exact ⟨by rw [HQ.out]; rfl, rfl⟩
    · obtain ⟨k, rfl⟩ : ∃ k : Nat, i = (k : Int) := ⟨i.toNat, by omega⟩
      have g0 : decide ((0 : Int) ≤ (k : Int)) = true := by simp
      have j1 : (0 : Int) ≤ (k : Int) := by omega
      have j2 : (k : Int) < (s.size : Int) := by omega
      have j3 : k < s.size := by omega
      have hb : s.data.toList[k]? = some s[k] := by
        rw [List.getElem?_eq_getElem (by simpa using j3)]
        rfl
      by_cases hx : s[k] = b
      · have d1 : ((s[k].toNat : Int) == (b.toNat : Int)) = true := by rw [hx]; simp
        have HQ : Hid (R = (k : Int)) := Lib.hid (by rw [← HR.out]; exact lastI_at b _ k (by rw [hb, hx]) (fun j hj => HN.out j (by omega)))
        clear HR HN hx hb h0
        go_wp2_with fail
        go_ret
        exact ⟨by rw [HQ.out]; rfl, rfl⟩
      · have d1 : ((s[k].toNat : Int) == (b.toNat : Int)) = false := ne_byte hx
        have HN2 : Hid (∀ j : Nat, (k : Int) - 1 < (j : Int) → s.data.toList[j]? ≠ some b) := Lib.hid (fun j hj => by
          by_cases hjk : j = k
          · rw [hjk, hb]
            intro h
            exact hx (Option.some.inj h)
          · exact HN.out j (by omega))
        clear HN hx hb h0
        go_wp2_with fail
        go_round
        case rel => exact ⟨(k : Int) - 1, by omega, by omega, by go_num, HN2⟩
        case measure => simp [intOf]
end Go.Proofs.YtgebkpnieailbaaGreatDoor

/-
  Addresses: the walk of spec's l06One.
-/
namespace Go.Proofs.YtgebkpnieailbaaGreatDoor
set_option linter.unusedVariables false
open Go.RowKit

/-- What l06One hands back. -/
def boxV (nm m : List UInt8) : Value := match boxOf nm m with
  | some a => .tuple #[.agg #[.string (mkB a.name), .string (mkB a.box), .string (mkB a.host)], .bool true]
  | none => .tuple #[.agg #[.string (mkB nm), .string ⟨#[]⟩, .string ⟨#[]⟩], .bool false]
def oneV (p : List UInt8) : Value := boxV (twoOf p).1 (twoOf p).2
def noV (n : ByteArray) : Value := .tuple #[.agg #[.string n, .string ⟨#[]⟩, .string ⟨#[]⟩], .bool false]
theorem boxV_no {nm m : List UInt8} (h : ¬ (m.all specB = true ∧ 0 < lastI 64 m ∧ lastI 64 m < (m.length : Int) - 1)) : boxV nm m = noV (mkB nm) := by
  unfold boxV boxOf
  rw [if_neg h]
  rfl
theorem boxV_yes {nm : List UInt8} {m : ByteArray} {k : Nat} (h : m.data.toList.all specB = true) (hk : lastI 64 m.data.toList = (k : Int)) (h1 : 0 < k) (h2 : (k : Int) < (m.size : Int) - 1) :
    boxV nm m.data.toList = .tuple #[.agg #[.string (mkB nm), .string (m.extract 0 k), .string (m.extract (k + 1) m.size)], .bool true] := by
  have hl : m.data.toList.length = m.size := by simp
  unfold boxV boxOf
  rw [if_pos ⟨h, by omega, by omega⟩]
  simp only
  rw [hk, mkB_extract, mkB_extract, show ((k : Int)).toNat = k by omega, List.drop_zero, Nat.sub_zero, List.take_of_length_le (l := m.data.toList.drop (k + 1)) (by simp)]
theorem byte_to_int (b : UInt8) : wrap64 (b.toNat : Int) = (b.toNat : Int) := by
  have := b.toNat_lt
  unfold wrap64
  omega
theorem specB_no (b : UInt8) (h : b.toNat < 33 ∨ 126 < b.toNat ∨ b = 60 ∨ b = 62) : specB b = false := by
  unfold specB nameB
  rcases h with h | h | rfl | rfl
  · rw [decide_eq_false (by omega)]; rfl
  · rw [decide_eq_false (by omega : ¬ b.toNat ≤ 126)]; simp
  · rfl
  · rfl
theorem specB_yes (b : UInt8) (h1 : 33 ≤ b.toNat) (h2 : b.toNat ≤ 126) (h3 : b ≠ 60) (h4 : b ≠ 62) : specB b = true := by
  unfold specB nameB
  rw [decide_eq_true h1, decide_eq_true h2, beq_eq_false_iff_ne.2 h3, beq_eq_false_iff_ne.2 h4]
  rfl
theorem all_step (p : UInt8 → Bool) (m : ByteArray) (k : Nat) (h : k < m.size) : (m.data.toList.take (k + 1)).all p = ((m.data.toList.take k).all p && p m[k]) := by
  rw [all_take p _ k (by simpa using h), byte_at m k h]
theorem all_no (p : UInt8 → Bool) (m : ByteArray) (k : Nat) (h : k < m.size) (hp : p m[k] = false) : m.data.toList.all p = false :=
  all_false p _ k (by simpa using h) (by rw [byte_at m k h]; exact hp)

set_option maxRecDepth 100000 in
set_option maxHeartbeats 4000000 in
theorem specOne_any (s : ByteArray) (w : World) (hs : s.size ≤ 1048576) (h0 : 0 < s.size) :
    Calls Tryz.prog 160 #[.string s] w fun e w' => e = .returned (oneV s.data.toList) ∧ Below w.heap.size w w' := by
  have hlen : s.data.toList.length = s.size := by simp
  have LA := Lib.hid (fun w => last_any s 60 w hs)
  have b60 : (((60 : UInt8).toNat : Nat) : Int) = 60 := rfl
  have b64 : (((64 : UInt8).toNat : Nat) : Int) = 64 := rfl
  rw [b60] at LA
  unfold oneV
  have htw : twoOf s.data.toList = if 0 ≤ lastI 60 s.data.toList ∧ s.data.toList.getD (s.data.toList.length - 1) 0 = 62 then (unqL (s.data.toList.take (lastI 60 s.data.toList).toNat), (s.data.toList.drop ((lastI 60 s.data.toList).toNat + 1)).take (s.data.toList.length - 1 - ((lastI 60 s.data.toList).toNat + 1))) else ([], s.data.toList) := rfl
  have hspec := lastI_spec 60 s.data.toList
  generalize lastI 60 s.data.toList = n at LA htw hspec
  rw [hlen, byte_at s (s.size - 1) (by omega)] at htw
  have i0 : (0 : Int) ≤ (s.size : Int) - 1 := by omega
  have i1 : (s.size : Int) - 1 < (s.size : Int) := by omega
  have i2 : s.size - 1 < s.size := by omega
  have i3 : 1 ≤ s.size := by omega
  have hyes : (∃ i : Nat, n = (i : Int) ∧ s[s.size - 1] = 62 ∧ i + 1 ≤ s.size - 1) ∨ ¬ (0 ≤ n ∧ s[s.size - 1] = 62) := by
    by_cases hy : 0 ≤ n ∧ s[s.size - 1] = 62
    · left
      rcases hspec with ⟨h, _⟩ | ⟨i, h, h3, h4, _⟩
      · omega
      · refine ⟨i, h, hy.2, ?_⟩
        rw [hlen] at h3
        by_cases he : i = s.size - 1
        · exfalso
          subst he
          have := byte_some s (s.size - 1) (by omega)
          rw [h4, hy.2] at this
          cases this
        · omega
    · exact .inr hy
  clear hspec
  rcases hyes with ⟨i, rfl, h62, hi⟩ | hno
  · rw [if_pos ⟨by omega, h62⟩, show ((i : Int)).toNat = i by omega] at htw
    have g1 : ((s[s.size - 1].toNat : Int) == 62) = true := by rw [h62]; rfl
    have g2 : decide ((0 : Int) ≤ (i : Int)) = true := by simp
    have j1 : (0 : Int) ≤ (i : Int) := by omega
    have j2 : (i : Int) ≤ (s.size : Int) := by omega
    have j3 : (0 : Int) ≤ (i : Int) + 1 := by omega
    have j4 : (i : Int) + 1 ≤ (s.size : Int) - 1 := by omega
    have j5 : (s.size : Int) - 1 ≤ (s.size : Int) := by omega
    have UQ := Lib.hid (fun w => specUnquote_any (s.extract 0 i) w (by rw [ByteArray.size_extract]; omega))
    rw [Lib.extract_data, List.drop_zero, Nat.sub_zero] at UQ
    rw [htw]
    generalize unqL (s.data.toList.take i) = nm at UQ ⊢
    obtain ⟨m, hm⟩ : ∃ m, s.extract (i + 1) (s.size - 1) = m := ⟨_, rfl⟩
    have hms : m.size ≤ 1048576 := by rw [← hm, ByteArray.size_extract]; omega
    rw [← Lib.extract_data s (i + 1) (s.size - 1), hm]
    have HM := Lib.hid hm
    clear htw hi h62 hm h0 hlen
    go_enter Tryz.func160, Tryz.ntmps160
    go_wp2_with fail
    refine (LA.out _).mono ?_
    rintro e w1 ⟨rfl, rfl⟩
    go_wp2_with fail
    refine (UQ.out _).mono ?_
    rintro e w2 ⟨rfl, hB2⟩
    have hR0 : ((w.alloc (.cells #[.string ⟨#[]⟩, .string ⟨#[]⟩, .string ⟨#[]⟩] 195)).alloc (.cells #[.string ⟨#[]⟩, .string ⟨#[]⟩, .string ⟨#[]⟩] 195)).heap[w.heap.size]? = some (.cells #[.string ⟨#[]⟩, .string ⟨#[]⟩, .string ⟨#[]⟩] 195 (0, 0)) := (Below.heap_alloc _ _ _ (by simp)).trans (new_three w _ _ _ _)
    have hX0 := new_three (w.alloc (.cells #[.string ⟨#[]⟩, .string ⟨#[]⟩, .string ⟨#[]⟩] 195)) (.string ⟨#[]⟩) (.string ⟨#[]⟩) (.string ⟨#[]⟩) 195
    rw [World.size_alloc] at hX0
    have hB0 : Below w.heap.size w ((w.alloc (.cells #[.string ⟨#[]⟩, .string ⟨#[]⟩, .string ⟨#[]⟩] 195)).alloc (.cells #[.string ⟨#[]⟩, .string ⟨#[]⟩, .string ⟨#[]⟩] 195)) := ((Below.refl _ _).alloc (Nat.le_refl _) _).alloc (by simp) _
    have hR2 := (hB2.block _ (by simp; omega)).trans hR0
    have hX2 := (hB2.block _ (by simp)).trans hX0
    have hB3 := hB0.trans (hB2.mono (by simp; omega))
    have hXW := heap_setCell_same w2 (w.heap.size + 1) 0 _ _ (.string (mkB nm)) hX2
    simp only [List.setIfInBounds_toArray, List.set_cons_zero] at hXW
    have hRW := (Below.heap_setCell w2 ⟨w.heap.size + 1, 0, none⟩ (.string (mkB nm)) w.heap.size (by simp)).trans hR2
    have hBW := hB3.setCell (p := ⟨w.heap.size + 1, 0, none⟩) (by simp) (.string (mkB nm))
    obtain ⟨_, _, _⟩ := three_free hX2
    obtain ⟨_, _, _⟩ := three_cells hX2
    obtain ⟨N, hN⟩ : ∃ N, mkB nm = N := ⟨_, rfl⟩
    have HNM := Lib.hid hN
    rw [hN] at hXW hRW hBW ⊢
    clear hR0 hX0 hB0 hR2 hX2 hB3 hB2 hN
    go_wp2_with fail
    obtain ⟨W, hW⟩ : ∃ W, w2.setCell ⟨w.heap.size + 1, 0, none⟩ (.string N) = W := ⟨_, rfl⟩
    rw [hW] at hRW hXW hBW
    rw [hW, HM.out]
    have HR := Lib.hid hRW
    have HX := Lib.hid hXW
    have HB := Lib.hid hBW
    obtain ⟨x0, x1, x2⟩ := three_cells hXW
    obtain ⟨y0, y1, y2⟩ := three_free hXW
    obtain ⟨z0, z1, z2⟩ := three_free hRW
    obtain ⟨z3, z4, z5⟩ := three_cells hRW
    clear hRW hXW hBW hW
    go_wp2_with fail
    go_loop [7] (fun a => ∃ k : Nat, k ≤ m.size ∧ a = .int .i64 (k : Int) ∧ Hid ((m.data.toList.take k).all specB = true)) (fun a => m.size - (intOf a).toNat)
    case atStart => exact ⟨0, Nat.zero_le _, rfl, Lib.hid (by simp)⟩
    case round =>
      obtain ⟨k, hk, rfl, HA⟩ := hrel
      by_cases hlt : k < m.size
      · have d1 : decide ((k : Int) < (m.size : Int)) = true := by simp; omega
        have k1 : (0 : Int) ≤ (k : Int) := by omega
        have k2 : (k : Int) < (m.size : Int) := by omega
        have wq : wrap64 (m[k].toNat : Int) = (m[k].toNat : Int) := byte_to_int _
        by_cases hin : 33 ≤ m[k].toNat ∧ m[k].toNat ≤ 126
        · have INX := Lib.hid (fun w => in_yes (m[k].toNat : Int) 33 126 w (by omega) (by omega))
          by_cases h60 : m[k] = 60
          · have d2 : ((m[k].toNat : Int) == 60) = true := by rw [h60]; rfl
            have HV : Hid (boxV nm m.data.toList = noV N) := Lib.hid (by rw [boxV_no (fun h => by have h1 := h.1; rw [all_no specB m k hlt (specB_no _ (by simp [h60]))] at h1; cases h1), HNM.out])
            clear h60 HA hin
            go_wp2_with (go_at_call 117; refine (INX.out _).mono ?_; rintro e w' ⟨rfl, hw⟩; rw [hw]; clear hw w')
            have q := three_cells (set_three HR.out (.string N) (.string ⟨#[]⟩) (.string ⟨#[]⟩))
            refine bodyPost_ret (v := noV N) (by simp [results, Tryz.results160, go_sem, q.1, q.2.1, q.2.2, noV]) rfl ⟨by rw [HV.out], ?_⟩
            exact below_three HB.out (Nat.le_refl _) _ _ _
          · have d2 : ((m[k].toNat : Int) == 60) = false := ne_byte (b := 60) h60
            by_cases h62 : m[k] = 62
            · have d3 : ((m[k].toNat : Int) == 62) = true := by rw [h62]; rfl
              have HV : Hid (boxV nm m.data.toList = noV N) := Lib.hid (by rw [boxV_no (fun h => by have h1 := h.1; rw [all_no specB m k hlt (specB_no _ (by simp [h62]))] at h1; cases h1), HNM.out])
              clear h60 h62 HA hin
              go_wp2_with (go_at_call 117; refine (INX.out _).mono ?_; rintro e w' ⟨rfl, hw⟩; rw [hw]; clear hw w')
              have q := three_cells (set_three HR.out (.string N) (.string ⟨#[]⟩) (.string ⟨#[]⟩))
              refine bodyPost_ret (v := noV N) (by simp [results, Tryz.results160, go_sem, q.1, q.2.1, q.2.2, noV]) rfl ⟨by rw [HV.out], ?_⟩
              exact below_three HB.out (Nat.le_refl _) _ _ _
            · have d3 : ((m[k].toNat : Int) == 62) = false := ne_byte (b := 62) h62
              have HN : Hid ((m.data.toList.take (k + 1)).all specB = true) := Lib.hid (by rw [all_step specB m k hlt, HA.out, specB_yes _ hin.1 hin.2 h60 h62]; rfl)
              clear h60 h62 HA hin
              go_wp2_with (go_at_call 117; refine (INX.out _).mono ?_; rintro e w' ⟨rfl, hw⟩; rw [hw]; clear hw w')
              go_round
              case rel => exact ⟨k + 1, by omega, by go_num, HN⟩
              case measure => simp [intOf]; omega
        · have INX := Lib.hid (fun w => in_no (m[k].toNat : Int) 33 126 w (by omega))
          have HV : Hid (boxV nm m.data.toList = noV N) := Lib.hid (by rw [boxV_no (fun h => by have h1 := h.1; rw [all_no specB m k hlt (specB_no _ (by omega))] at h1; cases h1), HNM.out])
          clear HA hin
          go_wp2_with (go_at_call 117; refine (INX.out _).mono ?_; rintro e w' ⟨rfl, hw⟩; rw [hw]; clear hw w')
          have q := three_cells (set_three HR.out (.string N) (.string ⟨#[]⟩) (.string ⟨#[]⟩))
          refine bodyPost_ret (v := noV N) (by simp [results, Tryz.results160, go_sem, q.1, q.2.1, q.2.2, noV]) rfl ⟨by rw [HV.out], ?_⟩
          exact below_three HB.out (Nat.le_refl _) _ _ _
      · have d1 : decide ((k : Int) < (m.size : Int)) = false := by simp; omega
        have HALL : Hid (m.data.toList.all specB = true) := Lib.hid (by
          have := HA.out
          rwa [List.take_of_length_le (by simp; omega)] at this)
        have LB := Lib.hid (fun w => last_any m 64 w hms)
        rw [b64] at LB
        have hbd := lastI_bounds 64 m.data.toList
        obtain ⟨t, ht⟩ : ∃ t, lastI 64 m.data.toList = t := ⟨_, rfl⟩
        rw [ht] at hbd LB
        rw [show m.data.toList.length = m.size by simp] at hbd
        have HT := Lib.hid ht
        clear ht HA
        by_cases c1 : t < 1
        · have g3 : decide (t < 1) = true := by simpa using c1
          have HV : Hid (boxV nm m.data.toList = noV N) := Lib.hid (by rw [boxV_no (fun h => by have h1 := h.2.1; rw [HT.out] at h1; omega), HNM.out])
          clear hbd c1 HALL HT
          go_wp2_with (go_at_call 183; refine (LB.out _).mono ?_; rintro e w' ⟨rfl, hw⟩; rw [hw]; clear hw w')
          have q := three_cells (set_three HR.out (.string N) (.string ⟨#[]⟩) (.string ⟨#[]⟩))
          refine bodyPost_ret (v := noV N) (by simp [results, Tryz.results160, go_sem, q.1, q.2.1, q.2.2, noV]) rfl ⟨by rw [HV.out], ?_⟩
          exact below_three HB.out (Nat.le_refl _) _ _ _
        · have g3 : decide (t < 1) = false := by simpa using c1
          by_cases c2 : t = (m.size : Int) - 1
          · have g4 : (t == (m.size : Int) - 1) = true := by rw [beq_iff_eq]; exact c2
            have HV : Hid (boxV nm m.data.toList = noV N) := Lib.hid (by rw [boxV_no (fun h => by have h1 := h.2.2; rw [HT.out, show m.data.toList.length = m.size by simp] at h1; omega), HNM.out])
            clear hbd c1 c2 HALL HT
            go_wp2_with (go_at_call 183; refine (LB.out _).mono ?_; rintro e w' ⟨rfl, hw⟩; rw [hw]; clear hw w')
            have q := three_cells (set_three HR.out (.string N) (.string ⟨#[]⟩) (.string ⟨#[]⟩))
            refine bodyPost_ret (v := noV N) (by simp [results, Tryz.results160, go_sem, q.1, q.2.1, q.2.2, noV]) rfl ⟨by rw [HV.out], ?_⟩
            exact below_three HB.out (Nat.le_refl _) _ _ _
          · have g4 : (t == (m.size : Int) - 1) = false := by rw [beq_eq_false_iff_ne]; exact c2
            obtain ⟨o, rfl⟩ : ∃ o : Nat, t = (o : Int) := ⟨t.toNat, by omega⟩
            have HV : Hid (boxV nm m.data.toList = .tuple #[.agg #[.string N, .string (m.extract 0 o), .string (m.extract (o + 1) m.size)], .bool true]) := Lib.hid (by rw [boxV_yes HALL.out HT.out (by omega) (by omega), HNM.out])
            have o1 : (0 : Int) ≤ (o : Int) := by omega
            have o2 : (o : Int) ≤ (m.size : Int) := by omega
            have o3 : (0 : Int) ≤ (o : Int) + 1 := by omega
            have o4 : (o : Int) + 1 ≤ (m.size : Int) := by omega
            have hX1 : (W.setCell ⟨w.heap.size + 1, 1, none⟩ (.string (m.extract 0 o))).heap[w.heap.size + 1]? = _ := heap_setCell_same W _ 1 _ _ _ HX.out
            have hX2 : ((W.setCell ⟨w.heap.size + 1, 1, none⟩ (.string (m.extract 0 o))).setCell ⟨w.heap.size + 1, 2, none⟩ (.string (m.extract (o + 1) m.size))).heap[w.heap.size + 1]? = _ := heap_setCell_same _ _ 2 _ _ _ hX1
            simp only [List.setIfInBounds_toArray, List.set_cons_zero, List.set_cons_succ] at hX1 hX2
            have hR2 : ((W.setCell ⟨w.heap.size + 1, 1, none⟩ (.string (m.extract 0 o))).setCell ⟨w.heap.size + 1, 2, none⟩ (.string (m.extract (o + 1) m.size))).heap[w.heap.size]? = some (.cells #[.string ⟨#[]⟩, .string ⟨#[]⟩, .string ⟨#[]⟩] 195 (0, 0)) := (Below.heap_setCell _ _ _ _ (by simp)).trans ((Below.heap_setCell _ _ _ _ (by simp)).trans HR.out)
            have hB2 : Below w.heap.size w ((W.setCell ⟨w.heap.size + 1, 1, none⟩ (.string (m.extract 0 o))).setCell ⟨w.heap.size + 1, 2, none⟩ (.string (m.extract (o + 1) m.size))) := (HB.out.setCell (p := ⟨w.heap.size + 1, 1, none⟩) (by simp) _).setCell (p := ⟨w.heap.size + 1, 2, none⟩) (by simp) _
            have v1 := (three_free hX1).2.2
            have v2 := (three_cells hX1).2.2
            obtain ⟨v3, v4, v5⟩ := three_cells hX2
            obtain ⟨v6, v7, v8⟩ := three_free hR2
            obtain ⟨v9, va, vb⟩ := three_cells hR2
            have HR2 := Lib.hid hR2
            have HB2 := Lib.hid hB2
            clear hX1 hX2 hR2 hB2 hbd c1 c2 HALL HT
            go_wp2_with (go_at_call 183; refine (LB.out _).mono ?_; rintro e w' ⟨rfl, hw⟩; rw [hw]; clear hw w')
            have q := three_cells (set_three HR2.out (.string N) (.string (m.extract 0 o)) (.string (m.extract (o + 1) m.size)))
            refine bodyPost_ret (v := .tuple #[.agg #[.string N, .string (m.extract 0 o), .string (m.extract (o + 1) m.size)], .bool true]) (by simp [results, Tryz.results160, go_sem, q.1, q.2.1, q.2.2]) rfl ⟨by rw [HV.out], ?_⟩
            exact below_three HB2.out (Nat.le_refl _) _ _ _
  · have htw' : twoOf s.data.toList = ([], s.data.toList) := by rw [htw, if_neg hno]
    rw [htw']
    have HNM : Hid (mkB [] = (⟨#[]⟩ : ByteArray)) := Lib.hid rfl
    have hcond : ((s[s.size - 1].toNat : Int) == 62) = false ∨ (((s[s.size - 1].toNat : Int) == 62) = true ∧ decide ((0 : Int) ≤ n) = false) := by
      by_cases h62 : s[s.size - 1] = 62
      · right
        exact ⟨by rw [h62]; rfl, decide_eq_false (fun h => hno ⟨h, h62⟩)⟩
      · exact .inl (ne_byte (b := 62) h62)
    clear htw htw' hno hlen h0
    have hms : s.size ≤ 1048576 := hs
    have hR0 : ((w.alloc (.cells #[.string ⟨#[]⟩, .string ⟨#[]⟩, .string ⟨#[]⟩] 195)).alloc (.cells #[.string ⟨#[]⟩, .string ⟨#[]⟩, .string ⟨#[]⟩] 195)).heap[w.heap.size]? = some (.cells #[.string ⟨#[]⟩, .string ⟨#[]⟩, .string ⟨#[]⟩] 195 (0, 0)) := (Below.heap_alloc _ _ _ (by simp)).trans (new_three w _ _ _ _)
    have hX0 := new_three (w.alloc (.cells #[.string ⟨#[]⟩, .string ⟨#[]⟩, .string ⟨#[]⟩] 195)) (.string ⟨#[]⟩) (.string ⟨#[]⟩) (.string ⟨#[]⟩) 195
    rw [World.size_alloc] at hX0
    have hB0 : Below w.heap.size w ((w.alloc (.cells #[.string ⟨#[]⟩, .string ⟨#[]⟩, .string ⟨#[]⟩] 195)).alloc (.cells #[.string ⟨#[]⟩, .string ⟨#[]⟩, .string ⟨#[]⟩] 195)) := ((Below.refl _ _).alloc (Nat.le_refl _) _).alloc (by simp) _
    have hRW := hR0
    have hXW := hX0
    have hBW := hB0
    clear hR0 hX0 hB0
    rcases hcond with g1 | ⟨g1, g2⟩
    · go_enter Tryz.func160, Tryz.ntmps160
      go_wp2_with fail
      refine (LA.out _).mono ?_
      rintro e w1 ⟨rfl, hw⟩
      rw [hw]
      clear hw w1
      go_wp2_with fail
      obtain ⟨W, hW⟩ : ∃ W, ((w.alloc (.cells #[.string ⟨#[]⟩, .string ⟨#[]⟩, .string ⟨#[]⟩] 195)).alloc (.cells #[.string ⟨#[]⟩, .string ⟨#[]⟩, .string ⟨#[]⟩] 195)) = W := ⟨_, rfl⟩
      rw [hW] at hRW hXW hBW
      rw [hW]
      have HR := Lib.hid hRW
      have HX := Lib.hid hXW
      have HB := Lib.hid hBW
      obtain ⟨x0, x1, x2⟩ := three_cells hXW
      obtain ⟨y0, y1, y2⟩ := three_free hXW
      obtain ⟨z0, z1, z2⟩ := three_free hRW
      obtain ⟨z3, z4, z5⟩ := three_cells hRW
      clear hRW hXW hBW hW
      go_wp2_with fail
      go_loop [7] (fun a => ∃ k : Nat, k ≤ s.size ∧ a = .int .i64 (k : Int) ∧ Hid ((s.data.toList.take k).all specB = true)) (fun a => s.size - (intOf a).toNat)
      case atStart => exact ⟨0, Nat.zero_le _, rfl, Lib.hid (by simp)⟩
      case round =>
        obtain ⟨k, hk, rfl, HA⟩ := hrel
        by_cases hlt : k < s.size
        · have d1 : decide ((k : Int) < (s.size : Int)) = true := by simp; omega
          have k1 : (0 : Int) ≤ (k : Int) := by omega
          have k2 : (k : Int) < (s.size : Int) := by omega
          have wq : wrap64 (s[k].toNat : Int) = (s[k].toNat : Int) := byte_to_int _
          by_cases hin : 33 ≤ s[k].toNat ∧ s[k].toNat ≤ 126
          · have INX := Lib.hid (fun w => in_yes (s[k].toNat : Int) 33 126 w (by omega) (by omega))
            by_cases h60 : s[k] = 60
            · have d2 : ((s[k].toNat : Int) == 60) = true := by rw [h60]; rfl
              have HV : Hid (boxV [] s.data.toList = noV (⟨#[]⟩ : ByteArray)) := Lib.hid (by rw [boxV_no (fun h => by have h1 := h.1; rw [all_no specB s k hlt (specB_no _ (by simp [h60]))] at h1; cases h1), HNM.out])
              clear h60 HA hin
              go_wp2_with (go_at_call 117; refine (INX.out _).mono ?_; rintro e w' ⟨rfl, hw⟩; rw [hw]; clear hw w')
              have q := three_cells (set_three HR.out (.string (⟨#[]⟩ : ByteArray)) (.string ⟨#[]⟩) (.string ⟨#[]⟩))
              refine bodyPost_ret (v := noV (⟨#[]⟩ : ByteArray)) (by simp [results, Tryz.results160, go_sem, q.1, q.2.1, q.2.2, noV]) rfl ⟨by rw [HV.out], ?_⟩
              exact below_three HB.out (Nat.le_refl _) _ _ _
            · have d2 : ((s[k].toNat : Int) == 60) = false := ne_byte (b := 60) h60
              by_cases h62 : s[k] = 62
              · have d3 : ((s[k].toNat : Int) == 62) = true := by rw [h62]; rfl
                have HV : Hid (boxV [] s.data.toList = noV (⟨#[]⟩ : ByteArray)) := Lib.hid (by rw [boxV_no (fun h => by have h1 := h.1; rw [all_no specB s k hlt (specB_no _ (by simp [h62]))] at h1; cases h1), HNM.out])
                clear h60 h62 HA hin
                go_wp2_with (go_at_call 117; refine (INX.out _).mono ?_; rintro e w' ⟨rfl, hw⟩; rw [hw]; clear hw w')
                have q := three_cells (set_three HR.out (.string (⟨#[]⟩ : ByteArray)) (.string ⟨#[]⟩) (.string ⟨#[]⟩))
                refine bodyPost_ret (v := noV (⟨#[]⟩ : ByteArray)) (by simp [results, Tryz.results160, go_sem, q.1, q.2.1, q.2.2, noV]) rfl ⟨by rw [HV.out], ?_⟩
                exact below_three HB.out (Nat.le_refl _) _ _ _
              · have d3 : ((s[k].toNat : Int) == 62) = false := ne_byte (b := 62) h62
                have HN : Hid ((s.data.toList.take (k + 1)).all specB = true) := Lib.hid (by rw [all_step specB s k hlt, HA.out, specB_yes _ hin.1 hin.2 h60 h62]; rfl)
                clear h60 h62 HA hin
                go_wp2_with (go_at_call 117; refine (INX.out _).mono ?_; rintro e w' ⟨rfl, hw⟩; rw [hw]; clear hw w')
                go_round
                case rel => exact ⟨k + 1, by omega, by go_num, HN⟩
                case measure => simp [intOf]; omega
          · have INX := Lib.hid (fun w => in_no (s[k].toNat : Int) 33 126 w (by omega))
            have HV : Hid (boxV [] s.data.toList = noV (⟨#[]⟩ : ByteArray)) := Lib.hid (by rw [boxV_no (fun h => by have h1 := h.1; rw [all_no specB s k hlt (specB_no _ (by omega))] at h1; cases h1), HNM.out])
            clear HA hin
            go_wp2_with (go_at_call 117; refine (INX.out _).mono ?_; rintro e w' ⟨rfl, hw⟩; rw [hw]; clear hw w')
            have q := three_cells (set_three HR.out (.string (⟨#[]⟩ : ByteArray)) (.string ⟨#[]⟩) (.string ⟨#[]⟩))
            refine bodyPost_ret (v := noV (⟨#[]⟩ : ByteArray)) (by simp [results, Tryz.results160, go_sem, q.1, q.2.1, q.2.2, noV]) rfl ⟨by rw [HV.out], ?_⟩
            exact below_three HB.out (Nat.le_refl _) _ _ _
        · have d1 : decide ((k : Int) < (s.size : Int)) = false := by simp; omega
          have HALL : Hid (s.data.toList.all specB = true) := Lib.hid (by
            have := HA.out
            rwa [List.take_of_length_le (by simp; omega)] at this)
          have LB := Lib.hid (fun w => last_any s 64 w hms)
          rw [b64] at LB
          have hbd := lastI_bounds 64 s.data.toList
          obtain ⟨t, ht⟩ : ∃ t, lastI 64 s.data.toList = t := ⟨_, rfl⟩
          rw [ht] at hbd LB
          rw [show s.data.toList.length = s.size by simp] at hbd
          have HT := Lib.hid ht
          clear ht HA
          by_cases c1 : t < 1
          · have g3 : decide (t < 1) = true := by simpa using c1
            have HV : Hid (boxV [] s.data.toList = noV (⟨#[]⟩ : ByteArray)) := Lib.hid (by rw [boxV_no (fun h => by have h1 := h.2.1; rw [HT.out] at h1; omega), HNM.out])
            clear hbd c1 HALL HT
            go_wp2_with (go_at_call 183; refine (LB.out _).mono ?_; rintro e w' ⟨rfl, hw⟩; rw [hw]; clear hw w')
            have q := three_cells (set_three HR.out (.string (⟨#[]⟩ : ByteArray)) (.string ⟨#[]⟩) (.string ⟨#[]⟩))
            refine bodyPost_ret (v := noV (⟨#[]⟩ : ByteArray)) (by simp [results, Tryz.results160, go_sem, q.1, q.2.1, q.2.2, noV]) rfl ⟨by rw [HV.out], ?_⟩
            exact below_three HB.out (Nat.le_refl _) _ _ _
          · have g3 : decide (t < 1) = false := by simpa using c1
            by_cases c2 : t = (s.size : Int) - 1
            · have g4 : (t == (s.size : Int) - 1) = true := by rw [beq_iff_eq]; exact c2
              have HV : Hid (boxV [] s.data.toList = noV (⟨#[]⟩ : ByteArray)) := Lib.hid (by rw [boxV_no (fun h => by have h1 := h.2.2; rw [HT.out, show s.data.toList.length = s.size by simp] at h1; omega), HNM.out])
              clear hbd c1 c2 HALL HT
              go_wp2_with (go_at_call 183; refine (LB.out _).mono ?_; rintro e w' ⟨rfl, hw⟩; rw [hw]; clear hw w')
              have q := three_cells (set_three HR.out (.string (⟨#[]⟩ : ByteArray)) (.string ⟨#[]⟩) (.string ⟨#[]⟩))
              refine bodyPost_ret (v := noV (⟨#[]⟩ : ByteArray)) (by simp [results, Tryz.results160, go_sem, q.1, q.2.1, q.2.2, noV]) rfl ⟨by rw [HV.out], ?_⟩
              exact below_three HB.out (Nat.le_refl _) _ _ _
            · have g4 : (t == (s.size : Int) - 1) = false := by rw [beq_eq_false_iff_ne]; exact c2
              obtain ⟨o, rfl⟩ : ∃ o : Nat, t = (o : Int) := ⟨t.toNat, by omega⟩
              have HV : Hid (boxV [] s.data.toList = .tuple #[.agg #[.string (⟨#[]⟩ : ByteArray), .string (s.extract 0 o), .string (s.extract (o + 1) s.size)], .bool true]) := Lib.hid (by rw [boxV_yes HALL.out HT.out (by omega) (by omega), HNM.out])
              have o1 : (0 : Int) ≤ (o : Int) := by omega
              have o2 : (o : Int) ≤ (s.size : Int) := by omega
              have o3 : (0 : Int) ≤ (o : Int) + 1 := by omega
              have o4 : (o : Int) + 1 ≤ (s.size : Int) := by omega
              have hX1 : (W.setCell ⟨w.heap.size + 1, 1, none⟩ (.string (s.extract 0 o))).heap[w.heap.size + 1]? = _ := heap_setCell_same W _ 1 _ _ _ HX.out
              have hX2 : ((W.setCell ⟨w.heap.size + 1, 1, none⟩ (.string (s.extract 0 o))).setCell ⟨w.heap.size + 1, 2, none⟩ (.string (s.extract (o + 1) s.size))).heap[w.heap.size + 1]? = _ := heap_setCell_same _ _ 2 _ _ _ hX1
              simp only [List.setIfInBounds_toArray, List.set_cons_zero, List.set_cons_succ] at hX1 hX2
              have hR2 : ((W.setCell ⟨w.heap.size + 1, 1, none⟩ (.string (s.extract 0 o))).setCell ⟨w.heap.size + 1, 2, none⟩ (.string (s.extract (o + 1) s.size))).heap[w.heap.size]? = some (.cells #[.string ⟨#[]⟩, .string ⟨#[]⟩, .string ⟨#[]⟩] 195 (0, 0)) := (Below.heap_setCell _ _ _ _ (by simp)).trans ((Below.heap_setCell _ _ _ _ (by simp)).trans HR.out)
              have hB2 : Below w.heap.size w ((W.setCell ⟨w.heap.size + 1, 1, none⟩ (.string (s.extract 0 o))).setCell ⟨w.heap.size + 1, 2, none⟩ (.string (s.extract (o + 1) s.size))) := (HB.out.setCell (p := ⟨w.heap.size + 1, 1, none⟩) (by simp) _).setCell (p := ⟨w.heap.size + 1, 2, none⟩) (by simp) _
              have v1 := (three_free hX1).2.2
              have v2 := (three_cells hX1).2.2
              obtain ⟨v3, v4, v5⟩ := three_cells hX2
              obtain ⟨v6, v7, v8⟩ := three_free hR2
              obtain ⟨v9, va, vb⟩ := three_cells hR2
              have HR2 := Lib.hid hR2
              have HB2 := Lib.hid hB2
              clear hX1 hX2 hR2 hB2 hbd c1 c2 HALL HT
              go_wp2_with (go_at_call 183; refine (LB.out _).mono ?_; rintro e w' ⟨rfl, hw⟩; rw [hw]; clear hw w')
              have q := three_cells (set_three HR2.out (.string (⟨#[]⟩ : ByteArray)) (.string (s.extract 0 o)) (.string (s.extract (o + 1) s.size)))
              refine bodyPost_ret (v := .tuple #[.agg #[.string (⟨#[]⟩ : ByteArray), .string (s.extract 0 o), .string (s.extract (o + 1) s.size)], .bool true]) (by simp [results, Tryz.results160, go_sem, q.1, q.2.1, q.2.2]) rfl ⟨by rw [HV.out], ?_⟩
              exact below_three HB2.out (Nat.le_refl _) _ _ _
    · go_enter Tryz.func160, Tryz.ntmps160
      go_wp2_with fail
      refine (LA.out _).mono ?_
      rintro e w1 ⟨rfl, hw⟩
      rw [hw]
      clear hw w1
      go_wp2_with fail
      obtain ⟨W, hW⟩ : ∃ W, ((w.alloc (.cells #[.string ⟨#[]⟩, .string ⟨#[]⟩, .string ⟨#[]⟩] 195)).alloc (.cells #[.string ⟨#[]⟩, .string ⟨#[]⟩, .string ⟨#[]⟩] 195)) = W := ⟨_, rfl⟩
      rw [hW] at hRW hXW hBW
      rw [hW]
      have HR := Lib.hid hRW
      have HX := Lib.hid hXW
      have HB := Lib.hid hBW
      obtain ⟨x0, x1, x2⟩ := three_cells hXW
      obtain ⟨y0, y1, y2⟩ := three_free hXW
      obtain ⟨z0, z1, z2⟩ := three_free hRW
      obtain ⟨z3, z4, z5⟩ := three_cells hRW
      clear hRW hXW hBW hW
      go_wp2_with fail
      go_loop [7] (fun a => ∃ k : Nat, k ≤ s.size ∧ a = .int .i64 (k : Int) ∧ Hid ((s.data.toList.take k).all specB = true)) (fun a => s.size - (intOf a).toNat)
      case atStart => exact ⟨0, Nat.zero_le _, rfl, Lib.hid (by simp)⟩
      case round =>
        obtain ⟨k, hk, rfl, HA⟩ := hrel
        by_cases hlt : k < s.size
        · have d1 : decide ((k : Int) < (s.size : Int)) = true := by simp; omega
          have k1 : (0 : Int) ≤ (k : Int) := by omega
          have k2 : (k : Int) < (s.size : Int) := by omega
          have wq : wrap64 (s[k].toNat : Int) = (s[k].toNat : Int) := byte_to_int _
          by_cases hin : 33 ≤ s[k].toNat ∧ s[k].toNat ≤ 126
          · have INX := Lib.hid (fun w => in_yes (s[k].toNat : Int) 33 126 w (by omega) (by omega))
            by_cases h60 : s[k] = 60
            · have d2 : ((s[k].toNat : Int) == 60) = true := by rw [h60]; rfl
              have HV : Hid (boxV [] s.data.toList = noV (⟨#[]⟩ : ByteArray)) := Lib.hid (by rw [boxV_no (fun h => by have h1 := h.1; rw [all_no specB s k hlt (specB_no _ (by simp [h60]))] at h1; cases h1), HNM.out])
              clear h60 HA hin
              go_wp2_with (go_at_call 117; refine (INX.out _).mono ?_; rintro e w' ⟨rfl, hw⟩; rw [hw]; clear hw w')
              have q := three_cells (set_three HR.out (.string (⟨#[]⟩ : ByteArray)) (.string ⟨#[]⟩) (.string ⟨#[]⟩))
              refine bodyPost_ret (v := noV (⟨#[]⟩ : ByteArray)) (by simp [results, Tryz.results160, go_sem, q.1, q.2.1, q.2.2, noV]) rfl ⟨by rw [HV.out], ?_⟩
              exact below_three HB.out (Nat.le_refl _) _ _ _
            · have d2 : ((s[k].toNat : Int) == 60) = false := ne_byte (b := 60) h60
              by_cases h62 : s[k] = 62
              · have d3 : ((s[k].toNat : Int) == 62) = true := by rw [h62]; rfl
                have HV : Hid (boxV [] s.data.toList = noV (⟨#[]⟩ : ByteArray)) := Lib.hid (by rw [boxV_no (fun h => by have h1 := h.1; rw [all_no specB s k hlt (specB_no _ (by simp [h62]))] at h1; cases h1), HNM.out])
                clear h60 h62 HA hin
                go_wp2_with (go_at_call 117; refine (INX.out _).mono ?_; rintro e w' ⟨rfl, hw⟩; rw [hw]; clear hw w')
                have q := three_cells (set_three HR.out (.string (⟨#[]⟩ : ByteArray)) (.string ⟨#[]⟩) (.string ⟨#[]⟩))
                refine bodyPost_ret (v := noV (⟨#[]⟩ : ByteArray)) (by simp [results, Tryz.results160, go_sem, q.1, q.2.1, q.2.2, noV]) rfl ⟨by rw [HV.out], ?_⟩
                exact below_three HB.out (Nat.le_refl _) _ _ _
              · have d3 : ((s[k].toNat : Int) == 62) = false := ne_byte (b := 62) h62
                have HN : Hid ((s.data.toList.take (k + 1)).all specB = true) := Lib.hid (by rw [all_step specB s k hlt, HA.out, specB_yes _ hin.1 hin.2 h60 h62]; rfl)
                clear h60 h62 HA hin
                go_wp2_with (go_at_call 117; refine (INX.out _).mono ?_; rintro e w' ⟨rfl, hw⟩; rw [hw]; clear hw w')
                go_round
                case rel => exact ⟨k + 1, by omega, by go_num, HN⟩
                case measure => simp [intOf]; omega
          · have INX := Lib.hid (fun w => in_no (s[k].toNat : Int) 33 126 w (by omega))
            have HV : Hid (boxV [] s.data.toList = noV (⟨#[]⟩ : ByteArray)) := Lib.hid (by rw [boxV_no (fun h => by have h1 := h.1; rw [all_no specB s k hlt (specB_no _ (by omega))] at h1; cases h1), HNM.out])
            clear HA hin
            go_wp2_with (go_at_call 117; refine (INX.out _).mono ?_; rintro e w' ⟨rfl, hw⟩; rw [hw]; clear hw w')
            have q := three_cells (set_three HR.out (.string (⟨#[]⟩ : ByteArray)) (.string ⟨#[]⟩) (.string ⟨#[]⟩))
            refine bodyPost_ret (v := noV (⟨#[]⟩ : ByteArray)) (by simp [results, Tryz.results160, go_sem, q.1, q.2.1, q.2.2, noV]) rfl ⟨by rw [HV.out], ?_⟩
            exact below_three HB.out (Nat.le_refl _) _ _ _
        · have d1 : decide ((k : Int) < (s.size : Int)) = false := by simp; omega
          have HALL : Hid (s.data.toList.all specB = true) := Lib.hid (by
            have := HA.out
            rwa [List.take_of_length_le (by simp; omega)] at this)
          have LB := Lib.hid (fun w => last_any s 64 w hms)
          rw [b64] at LB
          have hbd := lastI_bounds 64 s.data.toList
          obtain ⟨t, ht⟩ : ∃ t, lastI 64 s.data.toList = t := ⟨_, rfl⟩
          rw [ht] at hbd LB
          rw [show s.data.toList.length = s.size by simp] at hbd
          have HT := Lib.hid ht
          clear ht HA
          by_cases c1 : t < 1
          · have g3 : decide (t < 1) = true := by simpa using c1
            have HV : Hid (boxV [] s.data.toList = noV (⟨#[]⟩ : ByteArray)) := Lib.hid (by rw [boxV_no (fun h => by have h1 := h.2.1; rw [HT.out] at h1; omega), HNM.out])
            clear hbd c1 HALL HT
            go_wp2_with (go_at_call 183; refine (LB.out _).mono ?_; rintro e w' ⟨rfl, hw⟩; rw [hw]; clear hw w')
            have q := three_cells (set_three HR.out (.string (⟨#[]⟩ : ByteArray)) (.string ⟨#[]⟩) (.string ⟨#[]⟩))
            refine bodyPost_ret (v := noV (⟨#[]⟩ : ByteArray)) (by simp [results, Tryz.results160, go_sem, q.1, q.2.1, q.2.2, noV]) rfl ⟨by rw [HV.out], ?_⟩
            exact below_three HB.out (Nat.le_refl _) _ _ _
          · have g3 : decide (t < 1) = false := by simpa using c1
            by_cases c2 : t = (s.size : Int) - 1
            · have g4 : (t == (s.size : Int) - 1) = true := by rw [beq_iff_eq]; exact c2
              have HV : Hid (boxV [] s.data.toList = noV (⟨#[]⟩ : ByteArray)) := Lib.hid (by rw [boxV_no (fun h => by have h1 := h.2.2; rw [HT.out, show s.data.toList.length = s.size by simp] at h1; omega), HNM.out])
              clear hbd c1 c2 HALL HT
              go_wp2_with (go_at_call 183; refine (LB.out _).mono ?_; rintro e w' ⟨rfl, hw⟩; rw [hw]; clear hw w')
              have q := three_cells (set_three HR.out (.string (⟨#[]⟩ : ByteArray)) (.string ⟨#[]⟩) (.string ⟨#[]⟩))
              refine bodyPost_ret (v := noV (⟨#[]⟩ : ByteArray)) (by simp [results, Tryz.results160, go_sem, q.1, q.2.1, q.2.2, noV]) rfl ⟨by rw [HV.out], ?_⟩
              exact below_three HB.out (Nat.le_refl _) _ _ _
            · have g4 : (t == (s.size : Int) - 1) = false := by rw [beq_eq_false_iff_ne]; exact c2
              obtain ⟨o, rfl⟩ : ∃ o : Nat, t = (o : Int) := ⟨t.toNat, by omega⟩
              have HV : Hid (boxV [] s.data.toList = .tuple #[.agg #[.string (⟨#[]⟩ : ByteArray), .string (s.extract 0 o), .string (s.extract (o + 1) s.size)], .bool true]) := Lib.hid (by rw [boxV_yes HALL.out HT.out (by omega) (by omega), HNM.out])
              have o1 : (0 : Int) ≤ (o : Int) := by omega
              have o2 : (o : Int) ≤ (s.size : Int) := by omega
              have o3 : (0 : Int) ≤ (o : Int) + 1 := by omega
              have o4 : (o : Int) + 1 ≤ (s.size : Int) := by omega
              have hX1 : (W.setCell ⟨w.heap.size + 1, 1, none⟩ (.string (s.extract 0 o))).heap[w.heap.size + 1]? = _ := heap_setCell_same W _ 1 _ _ _ HX.out
              have hX2 : ((W.setCell ⟨w.heap.size + 1, 1, none⟩ (.string (s.extract 0 o))).setCell ⟨w.heap.size + 1, 2, none⟩ (.string (s.extract (o + 1) s.size))).heap[w.heap.size + 1]? = _ := heap_setCell_same _ _ 2 _ _ _ hX1
              simp only [List.setIfInBounds_toArray, List.set_cons_zero, List.set_cons_succ] at hX1 hX2
              have hR2 : ((W.setCell ⟨w.heap.size + 1, 1, none⟩ (.string (s.extract 0 o))).setCell ⟨w.heap.size + 1, 2, none⟩ (.string (s.extract (o + 1) s.size))).heap[w.heap.size]? = some (.cells #[.string ⟨#[]⟩, .string ⟨#[]⟩, .string ⟨#[]⟩] 195 (0, 0)) := (Below.heap_setCell _ _ _ _ (by simp)).trans ((Below.heap_setCell _ _ _ _ (by simp)).trans HR.out)
              have hB2 : Below w.heap.size w ((W.setCell ⟨w.heap.size + 1, 1, none⟩ (.string (s.extract 0 o))).setCell ⟨w.heap.size + 1, 2, none⟩ (.string (s.extract (o + 1) s.size))) := (HB.out.setCell (p := ⟨w.heap.size + 1, 1, none⟩) (by simp) _).setCell (p := ⟨w.heap.size + 1, 2, none⟩) (by simp) _
              have v1 := (three_free hX1).2.2
              have v2 := (three_cells hX1).2.2
              obtain ⟨v3, v4, v5⟩ := three_cells hX2
              obtain ⟨v6, v7, v8⟩ := three_free hR2
              obtain ⟨v9, va, vb⟩ := three_cells hR2
              have HR2 := Lib.hid hR2
              have HB2 := Lib.hid hB2
              clear hX1 hX2 hR2 hB2 hbd c1 c2 HALL HT
              go_wp2_with (go_at_call 183; refine (LB.out _).mono ?_; rintro e w' ⟨rfl, hw⟩; rw [hw]; clear hw w')
              have q := three_cells (set_three HR2.out (.string (⟨#[]⟩ : ByteArray)) (.string (s.extract 0 o)) (.string (s.extract (o + 1) s.size)))
              refine bodyPost_ret (v := .tuple #[.agg #[.string (⟨#[]⟩ : ByteArray), .string (s.extract 0 o), .string (s.extract (o + 1) s.size)], .bool true]) (by simp [results, Tryz.results160, go_sem, q.1, q.2.1, q.2.2]) rfl ⟨by rw [HV.out], ?_⟩
              exact below_three HB2.out (Nat.le_refl _) _ _ _
end Go.Proofs.YtgebkpnieailbaaGreatDoor

/-
  An append to a row of the call's own, as one step of a region that draws its order.
-/
namespace Go.Proofs.YtgebkpnieailbaaGreatDoor
set_option linter.unusedVariables false
open Go.RowKit

theorem step_append_own {P : Program} {ops : Array Oper} {o : Oper} {act : Act} {w : World} {K : Act → World → Prop} {Q : Exit → Act → World → Prop} {E : Prop} (hgd : o.guard = none) (sl x : Operand) (t : TypeId)
    (ho : o.op = .call { callee := .builtin .append, args := #[sl, x], argTypes := #[t, t] })
    (base : Nat) (e : TypeId) (i : TypeInfo) (z : Value) (size bytes : Nat) (ht : P.underlying t = some (.slice e)) (hi : P.info? e = some i) (hz : i.zero = some z) (hsize : i.size = size) (hby : i.bytes = bytes) (hzs : z.cells.size = size) (hsz : 0 < size) (hb64 : bytes ≤ 4096)
    (v : Value) (n : Nat) (xs : List Value) (hs : act.eval sl = v) (hown : w.ownsRow base e size v n xs)
    (ad : Addr) (m c : Nat) (news : List Value) (hx : act.eval x = .slice (some ad) m c) (hl : news.length = m * size) (hnews : ∀ j u, news[j]? = some u → w.cell? (ad.add j) = some u) (h1 : ∀ u ∈ news, u.oneCell' = true)
    (hsmall : n + m ≤ 1000000000) (hbase : base ≤ w.heap.size)
    (h : ∀ v' w', w'.ownsRow base e size v' (n + m) (xs ++ news) → w.grownBy w' v.ownBlock → K (act.put o.dst v') w') :
    if Region.wanted o (yielded ops act.tmps) = true then Oper.wp P o act w K Q else E := by
  have hw : Region.wanted o (yielded ops act.tmps) = true := by simp [Region.wanted, hgd]
  rw [if_pos hw]
  have hbb : (n + m) * bytes ≤ 140737488355328 := by
    have : (n + m) * bytes ≤ 1000000000 * 4096 := Nat.mul_le_mul hsmall hb64
    omega
  obtain ⟨v', w', hr, h2, h3, _⟩ := run_append_own (P := P) w base t o.type e i z size bytes ht hi hz hsize hby hzs hsz v n xs hown ad m c news hl hnews h1 (by unfold maxLen; omega) hbb hbase
  unfold Oper.wp
  simp [execOp, ho, resolve, invoke, builtin, hs, hx, hr, Result.andThen]
  exact h v' w' h2 h3
end Go.Proofs.YtgebkpnieailbaaGreatDoor

/-
  Addresses: the walk of impl's ReadAddrs.
-/
namespace Go.Proofs.YtgebkpnieailbaaGreatDoor
set_option linter.unusedVariables false
open Go.RowKit

set_option maxRecDepth 100000 in
set_option maxHeartbeats 2000000 in
theorem implReadAddrs_any (s : ByteArray) (w : World) (hs : s.size ≤ 1048576) :
    Calls Tryz.prog 120 #[.string s] w (GivesAds (addrsL s.data.toList) w) := by
  obtain ⟨j0, hj0, hy0, hy1, hy2⟩ := info_parts infoAd
  obtain ⟨R, hR⟩ : ∃ R, addrsL s.data.toList = R := ⟨_, rfl⟩
  rw [hR]
  unfold addrsL at hR
  have htl := comL_total s.data.toList
  have hne : ∀ p ∈ comL s.data.toList, p ≠ [] := fun p hp => (comL_mem hp).1
  have SC := Lib.hid (fun w => implCommas_any s w hs)
  generalize comL s.data.toList = parts at hR htl hne SC
  rw [show s.data.toList.length = s.size by simp] at htl
  have HNE := Lib.hid hne
  have HTL : Hid (total parts ≤ 1048576) := Lib.hid (by omega)
  have hpl : parts.length ≤ 1048577 := by omega
  have HR : Hid ([] ++ (parts.drop 0).filterMap addrOf = R) := Lib.hid (by rw [List.drop_zero]; exact hR)
  clear hR htl hne
  go_enter Tryz.func120, Tryz.ntmps120
  go_wp2_with fail
  go_step3
  go_wp2_with fail
  go_step3
  go_wp2_with fail
  refine (SC.out _).mono ?_
  rintro e w1 ⟨vl, rfl, hl1, hBl⟩
  obtain ⟨pl, cl, rfl⟩ := row_slice hl1
  rw [List.length_map] at hl1
  rw [List.length_map]
  have HL1 := Lib.hid hl1
  have HB1 := Lib.hid hBl
  clear hl1 hBl
  go_wp2_with fail
  obtain ⟨wA, hwA⟩ : ∃ x : World, x = w1 := ⟨_, rfl⟩
  rw [← hwA]
  rw [← hwA] at HL1 HB1
  clear hwA
  go_loopw [3, 13] (fun o i wr => ∃ (k : Nat) (out : List Ad), k ≤ parts.length ∧ i = .int .i64 (k : Int) ∧ Hid (out ++ (parts.drop k).filterMap addrOf = R) ∧ out.length ≤ k ∧ wr.ownsRow wA.heap.size 195 3 o out.length (adCells out) ∧ Hid (Below wA.heap.size wA wr)) (fun _ i _ => parts.length - (intOf i).toNat)
  case atStart => exact ⟨0, [], Nat.zero_le _, rfl, HR, Nat.le_refl _, World.ownsRow_nil _ _ _ _, Lib.hid (Below.refl _ _)⟩
  case round =>
    obtain ⟨k, out, hk, rfl, HP, hout, hown, HBA⟩ := hrel
    have hsA := HBA.out.size
    clear HR
    by_cases hlt : k < parts.length
    · have g1 : decide ((k : Int) < (parts.length : Int)) = true := by simp; omega
      have i1 : (0 : Int) ≤ (k : Int) := by omega
      have i2 : (k : Int) < (parts.length : Int) := by omega
      have hlin := row_below HL1.out HBA.out
      obtain ⟨gl, cl2, hgl⟩ := row_slice1 hlin (by omega)
      injection hgl with hgl1 hgl2 hgl3
      subst hgl1 hgl3
      have hcell := cellAt_str hlin k hlt rfl
      have HP2 := HP.out
      rw [drop_cons parts k hlt] at HP2
      have hq1 := HNE.out _ (List.getElem_mem hlt)
      have hq2 := total_mem (List.getElem_mem hlt)
      have hq3 := HTL.out
      generalize parts[k] = q at hcell HP2 hq1 hq2
      have hq4 : 0 < q.length := List.length_pos_iff.2 hq1
      have NS := fun w => nameSpec_any (mkB q) w (by rw [mkB_size]; omega) (by rw [mkB_size]; omega)
      rw [mkB_list] at NS
      have h2l := twoOf_len q
      have hao : addrOf q = boxOf (twoOf q).1 (twoOf q).2 := rfl
      generalize (twoOf q).1 = nm at NS h2l hao
      generalize (twoOf q).2 = ml at NS h2l hao
      obtain ⟨m, rfl⟩ : ∃ m : ByteArray, ml = m.data.toList := ⟨mkB ml, rfl⟩
      rw [show mkB m.data.toList = m from rfl] at NS
      have hml : m.data.toList.length = m.size := by simp
      rw [hml] at h2l
      have hms : m.size ≤ 1048576 := by omega
      have NSH := Lib.hid NS
      have HAO := Lib.hid hao
      have HP3 := Lib.hid HP2
      have HML := Lib.hid hml
      clear NS HP2 HP hq1 hq2 hq3 hq4 hao h2l hlin hml
      go_wp2_with (first | (go_at_call 156; refine (NSH.out _).mono ?_; rintro e w3 ⟨rfl, hB3⟩))
      have HROW := Lib.hid (row_lat hown hB3)
      have HB3 := Lib.hid (HBA.out.trans (hB3.mono hsA))
      clear hB3 hown HBA
      go_loop [8, 24] (fun at' i => ∃ j : Nat, j ≤ m.size ∧ i = .int .i64 (j : Int) ∧ at' = .int .i64 (lastI 64 (m.data.toList.take j)) ∧ Hid ((m.data.toList.take j).all specB = true)) (fun _ i => m.size - (intOf i).toNat)
      case atStart => exact ⟨0, Nat.zero_le _, rfl, rfl, Lib.hid (by simp)⟩
      case round =>
        obtain ⟨j, hj, rfl, rfl, HA⟩ := hrel
        by_cases hlt2 : j < m.size
        · have d1 : decide ((j : Int) < (m.size : Int)) = true := by simp; omega
          have k1 : (0 : Int) ≤ (j : Int) := by omega
          have k2 : (j : Int) < (m.size : Int) := by omega
          have SP := Lib.hid (fun w => inSpec_any m[j] w)
          have hls := lastI_take 64 m.data.toList j (by rw [HML.out]; exact hlt2)
          rw [show m.data.toList[j]'(by rw [HML.out]; exact hlt2) = m[j] from rfl] at hls
          cases hsp : specB m[j] with
          | false =>
            rw [hsp] at SP
            have HN : Hid (out ++ (parts.drop (k + 1)).filterMap addrOf = R) := Lib.hid (by
              have hno : boxOf nm m.data.toList = none := by
                unfold boxOf
                rw [if_neg (fun h => by have h1 := h.1; rw [all_no specB m j hlt2 hsp] at h1; cases h1)]
              rw [← HP3.out, List.filterMap_cons, HAO.out, hno])
            clear hls hsp HA HP3 HAO
            go_wp2_with (go_at_call 157; refine (SP.out _).mono ?_; rintro e w' ⟨rfl, hw⟩; rw [← hw]; clear hw w')
            go_roundw
            case rel => exact ⟨k + 1, out, by omega, by go_num, HN, by omega, HROW.out, HB3⟩
            case measure => simp [intOf]; omega
          | true =>
            rw [hsp] at SP
            have HN : Hid ((m.data.toList.take (j + 1)).all specB = true) := Lib.hid (by rw [all_step specB m j hlt2, HA.out, hsp]; rfl)
            by_cases h64 : m[j] = 64
            · have d2 : ((m[j].toNat : Int) == 64) = true := by rw [h64]; rfl
              rw [if_pos h64] at hls
              have HLS := Lib.hid hls
              clear hls hsp HA h64
              go_wp2_with (go_at_call 157; refine (SP.out _).mono ?_; rintro e w' ⟨rfl, hw⟩; rw [← hw]; clear hw w')
              go_round
              case rel => exact ⟨j + 1, by omega, by go_num, by rw [HLS.out], HN⟩
              case measure => simp [intOf]; omega
            · have d2 : ((m[j].toNat : Int) == 64) = false := ne_byte (b := 64) h64
              rw [if_neg h64] at hls
              have HLS := Lib.hid hls
              clear hls hsp HA h64
              go_wp2_with (go_at_call 157; refine (SP.out _).mono ?_; rintro e w' ⟨rfl, hw⟩; rw [← hw]; clear hw w')
              go_round
              case rel => exact ⟨j + 1, by omega, by go_num, by rw [HLS.out], HN⟩
              case measure => simp [intOf]; omega
        · have hje : m.data.toList.take j = m.data.toList := List.take_of_length_le (by rw [HML.out]; omega)
          rw [hje]
          have HALL : Hid (m.data.toList.all specB = true) := Lib.hid (by rw [← hje]; exact HA.out)
          clear hje HA
          have hbd := lastI_bounds 64 m.data.toList
          rw [HML.out] at hbd
          have d1 : decide ((j : Int) < (m.size : Int)) = false := by simp; omega
          by_cases hyes : 0 < lastI 64 m.data.toList ∧ lastI 64 m.data.toList < (m.size : Int) - 1
          · obtain ⟨o, ho⟩ : ∃ o : Nat, lastI 64 m.data.toList = (o : Int) := ⟨(lastI 64 m.data.toList).toNat, by omega⟩
            have HN : Hid ((out ++ [(⟨nm, m.data.toList.take o, m.data.toList.drop (o + 1)⟩ : Ad)]) ++ (parts.drop (k + 1)).filterMap addrOf = R) := Lib.hid (by
              have hb : boxOf nm m.data.toList = some ⟨nm, m.data.toList.take o, m.data.toList.drop (o + 1)⟩ := by
                unfold boxOf
                rw [if_pos ⟨HALL.out, hyes.1, by rw [HML.out]; exact hyes.2⟩, ho]
                rfl
              rw [← HP3.out, List.filterMap_cons, HAO.out, hb, List.append_assoc]
              rfl)
            rw [ho] at hyes hbd ⊢
            have e1 : mkB (m.data.toList.take o) = m.extract 0 o := by rw [mkB_extract, List.drop_zero, Nat.sub_zero]
            have e2 : mkB (m.data.toList.drop (o + 1)) = m.extract (o + 1) m.size := by rw [mkB_extract, List.take_of_length_le (by rw [List.length_drop, HML.out]; exact Nat.le_refl _)]
            have E1 := Lib.hid e1
            have E2 := Lib.hid e2
            have d2 : decide ((0 : Int) < (o : Int)) = true := by simp; omega
            have d3 : decide ((o : Int) < (m.size : Int) - 1) = true := by simp; omega
            have o1 : (0 : Int) ≤ (o : Int) := by omega
            have o2 : (o : Int) ≤ (m.size : Int) := by omega
            have o3 : (0 : Int) ≤ (o : Int) + 1 := by omega
            have o4 : (o : Int) + 1 ≤ (m.size : Int) := by omega
            clear ho HP3 HAO HALL e1 e2
            have o5 : ((o : Int) + 1).toNat = o + 1 := by omega
            have o6 : IntKind.i64.wrap ((o : Int) + 1) = (o : Int) + 1 := by rw [IntKind.wrap_i64]; omega
            go_wp2_with fail
            go_region_law (refine step_append_own rfl (.tmp 47) (.tmp 57) 165 rfl wA.heap.size 195 j0 (.agg #[.string ⟨#[]⟩, .string ⟨#[]⟩, .string ⟨#[]⟩]) 3 48 Tryz.underlying165 hj0 hy0 hy1 hy2 rfl (by decide) (by decide) _ _ _ rfl (HROW.out.drew.alloc _) ⟨w3.drew.heap.size, 0, none⟩ 1 1 [.string (mkB nm), .string (m.extract 0 o), .string (m.extract (o + 1) m.size)] rfl rfl (cell_three_new _ _ _ _ _ _ rfl) (by simp [Value.oneCell']) (by omega) (by have := HB3.out.size; simp; omega) ?_; intro v' w5 hown' hgrow)
            have hs3 := HB3.out.size
            have hB5 : Below wA.heap.size wA w5 := (HB3.out.drew.alloc (by simpa using hs3) _).grown hgrow (by simp; omega) (fun k e => (HROW.out.lt k e).1)
            have HROW5 : Hid (w5.ownsRow wA.heap.size 195 3 v' (out ++ [(⟨nm, m.data.toList.take o, m.data.toList.drop (o + 1)⟩ : Ad)]).length (adCells (out ++ [(⟨nm, m.data.toList.take o, m.data.toList.drop (o + 1)⟩ : Ad)]))) := Lib.hid (by
              rw [adCells_append]
              have e3 : adCells [(⟨nm, m.data.toList.take o, m.data.toList.drop (o + 1)⟩ : Ad)] = [.string (mkB nm), .string (m.extract 0 o), .string (m.extract (o + 1) m.size)] := by
                rw [← E1.out, ← E2.out]
                rfl
              rw [e3]
              simpa using hown')
            have HB5 := Lib.hid hB5
            clear hB5 hown' hgrow
            go_wp2_with fail
            go_roundw
            case rel => exact ⟨k + 1, out ++ [⟨nm, m.data.toList.take o, m.data.toList.drop (o + 1)⟩], by omega, by go_num, HN, by simp; omega, HROW5.out, HB5⟩
            case measure => simp [intOf]; omega
          · have HN : Hid (out ++ (parts.drop (k + 1)).filterMap addrOf = R) := Lib.hid (by
              have hno : boxOf nm m.data.toList = none := by
                unfold boxOf
                rw [if_neg (fun h => hyes ⟨h.2.1, by have := h.2.2; rw [HML.out] at this; exact this⟩)]
              rw [← HP3.out, List.filterMap_cons, HAO.out, hno])
            generalize lastI 64 m.data.toList = t at hyes hbd ⊢
            clear HP3 HAO HALL
            by_cases h0 : 0 < t
            · have d2 : decide ((0 : Int) < t) = true := by simpa using h0
              have d3 : decide (t < (m.size : Int) - 1) = false := decide_eq_false (fun h => hyes ⟨h0, h⟩)
              clear hyes h0 hbd
              go_wp2_with fail
              go_roundw
              case rel => exact ⟨k + 1, out, by omega, by go_num, HN, by omega, HROW.out, HB3⟩
              case measure => simp [intOf]; omega
            · have d2 : decide ((0 : Int) < t) = false := by simpa using h0
              clear hyes h0 hbd
              go_wp2_with fail
              go_roundw
              case rel => exact ⟨k + 1, out, by omega, by go_num, HN, by omega, HROW.out, HB3⟩
              case measure => simp [intOf]; omega
    · obtain rfl : k = parts.length := by omega
      have g2 : decide ((parts.length : Int) < (parts.length : Int)) = false := by simp
      have HN : Hid (out = R) := Lib.hid (by have := HP.out; rw [List.drop_length] at this; simpa using this)
      clear HP
      go_wp2_with fail
      go_ret
      refine ⟨_, rfl, ?_, HB1.out.trans (HBA.out.mono HB1.out.size)⟩
      rw [← HN.out]
      exact row_baseL hown HB1.out.size
end Go.Proofs.YtgebkpnieailbaaGreatDoor

/-
  Envelopes: the walks of impl's stringIn, addrsIn.
-/
namespace Go.Proofs.YtgebkpnieailbaaGreatDoor
set_option linter.unusedVariables false
open Go.RowKit Go.Maps

/-- The map tells the first field of each name. -/
def Tells (D : DataW Unit) (l : List Fl) : Prop := ∀ name : List UInt8,
  Maps.has D (.string (upS name)) = (bodyOf name l).isSome ∧ D.atKey (.string (upS name)) (.lit (.string [])) = .lit (.string ((bodyOf name l).getD []))
/-- What a map of fields tells of a name. -/
def bodyS (l : List Fl) (K : ByteArray) : ByteArray := mkB (bodyT (bodyOf K.data.toList l))
def adS (l : List Fl) (K X : ByteArray) : ByteArray := if addrsL ((bodyOf K.data.toList l).getD []) = [] then X else mkB (addrTs (addrsL ((bodyOf K.data.toList l).getD [])))

set_option maxRecDepth 100000 in
set_option maxHeartbeats 1000000 in
theorem stringIn_any (l : List Fl) (D : DataW Unit) (HT : Tells D l) (b n : Nat) (K : ByteArray) (hK : upS K.data.toList = K.data.toList) (hk : K.size ≤ 100) (w : World)
    (hown : w.ownsMap Tryz.prog 9 (plainElem Tryz.prog 9) b n D) (hs : ((bodyOf K.data.toList l).getD []).length ≤ 1048576) (ht : Tens w) :
    Calls Tryz.prog 72 #[.map (some b), .string K] w fun e w' => e = .returned (.string (bodyS l K)) ∧ Below w.heap.size w w' := by
  obtain ⟨t1, t2⟩ := HT K.data.toList
  rw [hK] at t1 t2
  have hkey := Go.WideMaps.keyOf_string_mk (P := Tryz.prog) Tryz.underlying9 (s := K) (by unfold maxLen; omega)
  obtain ⟨v, ps, hrun, hv⟩ := hown.look_ok (string_keyed Tryz.underlying9) Tryz.underlying105 (zeroStr w) (zd := .lit (.string [])) (zp := []) (plainElem_string Tryz.underlying9 (by decide)) hkey
  rw [t1] at hrun
  rw [t2] at hv
  obtain ⟨c, rfl, hc, _⟩ := plainElem_string_inv Tryz.underlying9 hv
  have hcc : c = mkB ((bodyOf K.data.toList l).getD []) := by
    have h1 := congrArg Prod.fst hc
    injection h1 with h1
    injection h1 with h1
    apply ByteArray.ext
    apply Array.ext'
    exact h1.symm
  subst hcc
  unfold bodyS
  generalize bodyOf K.data.toList l = R at hrun hs
  clear t1 t2 hv hc hkey hown HT hK
  cases R with
  | none =>
    have NE := Lib.hid (implNString_any (mkB []) false w (by decide) ht)
    clear ht hs
    rw [show (Option.getD none [] : List UInt8) = [] from rfl] at hrun
    rw [show (Option.isSome (none : Option (List UInt8))) = false from rfl] at hrun
    generalize mkB [] = e0 at hrun NE
    go_enter Tryz.func72, Tryz.ntmps72
    go_wp2_with fail
    refine NE.out.mono ?_
    rintro e w1 ⟨rfl, hB⟩
    go_wp2_with fail
    go_ret
    exact ⟨rfl, hB⟩
  | some s =>
    rw [show (Option.getD (some s) [] : List UInt8) = s from rfl] at hrun hs
    rw [show (Option.isSome (some s)) = true from rfl] at hrun
    have PS := Lib.hid (implPutString_any (mkB s) w (by rw [mkB_size]; omega) ht)
    have TE := Lib.hid (fun W (h : Below w.heap.size w W) => ht.later h)
    rw [mkB_list, show (⟨(putStr s).toArray⟩ : ByteArray) = mkB (putStr s) from rfl] at PS
    by_cases h0 : putStr s = []
    · rw [show bodyT (some s) = nilL from by simp [bodyT, h0]]
      have NE := Lib.hid (fun w ht => implNString_any (mkB s) false w (by rw [mkB_size]; omega) ht)
      have q1 : ((mkB (putStr s)).toList != ([] : List UInt8)) = false := by rw [Lib.toList_data, mkB_list, h0]; rfl
      have q2 : (mkB (putStr s)).toList = ([] : List UInt8) := by rw [Lib.toList_data, mkB_list, h0]
      generalize mkB (putStr s) = Z at PS q1 q2
      generalize mkB s = e0 at hrun PS NE
      clear h0 ht hs
      go_enter Tryz.func72, Tryz.ntmps72
      go_wp2_with fail
      refine PS.out.mono ?_
      rintro e w1 ⟨rfl, hB⟩
      have hB1 := Lib.hid hB
      clear hB
      go_wp2_with fail
      refine (NE.out _ (TE.out _ hB1.out)).mono ?_
      rintro e w2 ⟨rfl, hB⟩
      have hB2 := Lib.hid (hB1.out.trans (hB.mono hB1.out.size))
      clear hB
      go_wp2_with fail
      go_ret
      exact ⟨rfl, hB2.out⟩
    · rw [show bodyT (some s) = putStr s from by simp [bodyT, h0]]
      have NE := Lib.hid (fun w ht => implNString_any (mkB s) true w (by rw [mkB_size]; omega) ht)
      rw [mkB_list, show (⟨(nstr true s).toArray⟩ : ByteArray) = mkB (putStr s) from rfl] at NE
      have q1 : ((mkB (putStr s)).toList != ([] : List UInt8)) = true := by
        rw [Lib.toList_data, mkB_list]
        cases hp : putStr s with
        | nil => exact absurd hp h0
        | cons a r => rfl
      have q2 : ¬ (mkB (putStr s)).toList = ([] : List UInt8) := by rw [Lib.toList_data, mkB_list]; exact h0
      have q3 : (mkB (putStr s)).toList.isEmpty = false := by
        rw [Lib.toList_data, mkB_list]
        cases hp : putStr s with
        | nil => exact absurd hp h0
        | cons a r => rfl
      generalize mkB (putStr s) = Z at PS NE q1 q2 q3 ⊢
      generalize mkB s = e0 at hrun PS NE
      clear h0 ht hs
      go_enter Tryz.func72, Tryz.ntmps72
      go_wp2_with fail
      refine PS.out.mono ?_
      rintro e w1 ⟨rfl, hB⟩
      have hB1 := Lib.hid hB
      clear hB
      go_wp2_with fail
      refine (NE.out _ (TE.out _ hB1.out)).mono ?_
      rintro e w2 ⟨rfl, hB⟩
      have hB2 := Lib.hid (hB1.out.trans (hB.mono hB1.out.size))
      clear hB
      go_wp2_with fail
      go_ret
      exact ⟨rfl, hB2.out⟩

set_option maxRecDepth 100000 in
set_option maxHeartbeats 1000000 in
theorem addrsIn_any (l : List Fl) (D : DataW Unit) (HT : Tells D l) (b n : Nat) (K X : ByteArray) (hK : upS K.data.toList = K.data.toList) (hk : K.size ≤ 100) (w : World)
    (hown : w.ownsMap Tryz.prog 9 (plainElem Tryz.prog 9) b n D) (hs : ((bodyOf K.data.toList l).getD []).length ≤ 1048576) (ht : Tens w) :
    Calls Tryz.prog 70 #[.map (some b), .string K, .string X] w fun e w' => e = .returned (.string (adS l K X)) ∧ Below w.heap.size w w' := by
  obtain ⟨t1, t2⟩ := HT K.data.toList
  rw [hK] at t1 t2
  have hkey := Go.WideMaps.keyOf_string_mk (P := Tryz.prog) Tryz.underlying9 (s := K) (by unfold maxLen; omega)
  obtain ⟨v, ps, hrun, hv⟩ := hown.lookup (string_keyed Tryz.underlying9) Tryz.underlying105 (zeroStr w) (zd := .lit (.string [])) (zp := []) (plainElem_string Tryz.underlying9 (by decide)) hkey
  rw [t2] at hv
  obtain ⟨c, rfl, hc, _⟩ := plainElem_string_inv Tryz.underlying9 hv
  have hcc : c = mkB ((bodyOf K.data.toList l).getD []) := by
    have h1 := congrArg Prod.fst hc
    injection h1 with h1
    injection h1 with h1
    apply ByteArray.ext
    apply Array.ext'
    exact h1.symm
  subst hcc
  unfold adS
  generalize (bodyOf K.data.toList l).getD [] = s at hrun hs
  have RA := Lib.hid (implReadAddrs_any (mkB s) w (by rw [mkB_size]; omega))
  rw [mkB_list] at RA
  obtain ⟨a1, a2⟩ := addrs_small s hs
  have TE := Lib.hid (fun W (h : Below w.heap.size w W) => ht.later h)
  clear t1 t2 hv hc hkey hown HT hK ht
  generalize addrsL s = ads at RA a1 a2
  generalize mkB s = e0 at hrun RA
  have AT := Lib.hid (fun v w hv ht => implAddrText_any v ads w hv (by omega) (by omega) ht)
  have hz : ads.length ≤ 1048576 := by omega
  by_cases h0 : ads.length = 0
  · obtain rfl : ads = [] := List.eq_nil_of_length_eq_zero h0
    rw [if_pos rfl]
    clear h0 a1 a2 hs
    go_enter Tryz.func70, Tryz.ntmps70
    go_wp2_with fail
    refine RA.out.mono ?_
    rintro e w1 ⟨va, rfl, hr, hB⟩
    obtain ⟨p, cap, rfl⟩ := row_slice hr
    have hB1 := Lib.hid hB
    clear hB hr
    go_wp2_with fail
    go_ret
    exact ⟨rfl, hB1.out⟩
  · rw [if_neg (by intro h; rw [h] at h0; simp at h0)]
    have g0 : ((ads.length : Int) == 0) = false := by rw [beq_eq_false_iff_ne]; omega
    clear h0 a1 a2 hs
    go_enter Tryz.func70, Tryz.ntmps70
    go_wp2_with fail
    refine RA.out.mono ?_
    rintro e w1 ⟨va, rfl, hr, hB⟩
    have hva := ads_of_row hr
    obtain ⟨p, cap, rfl⟩ := row_slice hr
    have hB1 := Lib.hid hB
    have HVA := Lib.hid hva
    clear hB hr hva
    go_wp2_with fail
    refine (AT.out _ _ HVA.out (TE.out _ hB1.out)).mono ?_
    rintro e w2 ⟨rfl, hB⟩
    have hB2 := Lib.hid (hB1.out.trans (hB.mono hB1.out.size))
    clear hB
    go_wp2_with fail
    go_ret
    exact ⟨rfl, hB2.out⟩
end Go.Proofs.YtgebkpnieailbaaGreatDoor
