import Derived.Lib.CountLaws
import Derived.WalkKit
import Derived.Lib.Hide
import Derived.Shelf.Abstract
import Derived.Lib.IndexLaws
import Derived.Test.YtjleadlecdcdeaaDoorShelf
import Derived.Shelf.Strings.SlTrimAscii
import Derived.Test.YtjleadlecdcdeaaDoorRows
import Derived.Deep.RegionHeld3
import Derived.RangeFuncNested
import Derived.RangeFuncBound
import Derived.RangeFuncCalls
import Derived.RangeFuncLeaves
import Derived.RangeFuncWrites
import Derived.RangeFuncBox
import Derived.Shelf.RegionOpen
import Derived.OwnWalkIn
import Derived.TacticsInMore
import Derived.LoopNIn
import Derived.LoopIn
import Derived.Maps.OwnIn
import Derived.WalkSpells
import Derived.Deep.QuietTactic
import Derived.BigQuiet
import Derived.Lib.Strings
import Derived.Test.YtjleadlecdcdeaaDoorMg0
/-
  Kinds: what impl asks of the parts of a kind, in the model's words. Plain.
-/
namespace Go.Proofs.YtjleadlecdcdeaaDoor
set_option linter.unusedVariables false
open Go.RowKit

/-- The only double quotes are the first byte and the last. -/
def isQ (v : List UInt8) : Bool := Lib.hasPrefix v [34] && (Lib.hasSuffix v [34] && ((Lib.countByte v 34 : Int) == 2))
theorem hasL_count (b : UInt8) (l : List UInt8) : hasL b l = decide (0 < l.count b) := by
  unfold hasL
  rw [Bool.eq_iff_iff, List.any_eq_true, decide_eq_true_iff, List.count_pos_iff]
  constructor
  · rintro ⟨x, hx, e⟩
    rwa [← beq_iff_eq.1 e]
  · intro h
    exact ⟨b, h, beq_self_eq_true _⟩
theorem isQ_eq (v : List UInt8) : isQ v = (quotedL v && !hasL 34 ((v.drop 1).take (v.length - 2))) := by
  unfold isQ quotedL Lib.hasPrefix Lib.hasSuffix Lib.countByte
  rw [hasL_count]
  match v with
  | [] => rfl
  | a :: r =>
    rcases List.eq_nil_or_concat r with rfl | ⟨m, b, rfl⟩
    · have h1 : ([a].count 34) ≤ 1 := List.count_le_length
      have h2 : (([a].count 34 : Nat) : Int) ≠ 2 := by omega
      rw [show ((([a].count 34 : Nat) : Int) == 2) = false by rw [beq_eq_false_iff_ne]; exact h2]
      simp
    · have e1 : (a :: m.concat b) = a :: (m ++ [b]) := by simp
      rw [e1]
      have hl : (a :: (m ++ [b])).length = m.length + 2 := by simp
      have e2 : ((a :: (m ++ [b])).drop 1).take ((a :: (m ++ [b])).length - 2) = m := by
        rw [hl]; simp
      rw [e2, hl]
      have e3 : (a :: (m ++ [b])).getD 0 0 = a := rfl
      have e4 : (a :: (m ++ [b])).getD (m.length + 2 - 1) 0 = b := by
        rw [List.getD_eq_getElem?_getD, show m.length + 2 - 1 = m.length + 1 by omega, List.getElem?_cons_succ, List.getElem?_append_right (Nat.le_refl _)]
        simp
      rw [e3, e4]
      have p1 : List.isPrefixOf [34] (a :: (m ++ [b])) = (a == 34) := by
        rw [Bool.eq_iff_iff, List.isPrefixOf_iff_prefix, List.cons_prefix_cons, beq_iff_eq]
        exact ⟨fun h => h.1.symm, fun h => ⟨h.symm, List.nil_prefix⟩⟩
      have p2 : List.isSuffixOf [34] (a :: (m ++ [b])) = (b == 34) := by
        rw [Bool.eq_iff_iff, List.isSuffixOf_iff_suffix, beq_iff_eq]
        constructor
        · rintro ⟨t, ht⟩
          have h2 : t ++ [(34 : UInt8)] = (a :: m) ++ [b] := by rw [ht]; rfl
          have h3 := (List.append_inj' h2 rfl).2
          simpa using h3.symm
        · rintro rfl
          exact ⟨a :: m, rfl⟩
      rw [p1, p2]
      have hc : (a :: (m ++ [b])).count 34 = m.count 34 + (if b == 34 then 1 else 0) + (if a == 34 then 1 else 0) := by
        rw [List.count_cons, List.count_append, List.count_singleton]
      rw [hc]
      cases ha : a == 34 <;> cases hb : b == 34 <;> simp
      by_cases hm : (34 : UInt8) ∈ m
      · have h0 : 0 < List.count 34 m := List.count_pos_iff.2 hm
        have hne : ((List.count 34 m : Int) + 1 + 1 == 2) = false := by rw [beq_eq_false_iff_ne]; omega
        simp [hne, hm]
      · have h0 : List.count 34 m = 0 := List.count_eq_zero.2 hm
        simp [h0, hm]
set_option maxRecDepth 100000 in
theorem upB_tok (b : UInt8) : tokB (upB b) = tokB b := by
  have key : ∀ n : Fin 256, tokB (upB (UInt8.ofNat n.val)) = tokB (UInt8.ofNat n.val) := by decide
  have h := key ⟨b.toNat, b.toNat_lt⟩
  rwa [show UInt8.ofNat (⟨b.toNat, b.toNat_lt⟩ : Fin 256).val = b from UInt8.ofNat_toNat] at h
theorem tokL_up (l : List UInt8) : tokL (upS l) = tokL l := by
  unfold tokL upS
  rw [List.all_map, show tokB ∘ upB = tokB from funext upB_tok]
  cases l <;> rfl
/-- A text with a quote in it is no token. -/
theorem tokL_q {v : List UInt8} (h : hasL 34 v = true) : tokL v = false := by
  unfold tokL
  rw [Bool.and_eq_false_iff]
  refine .inl ?_
  rw [Bool.eq_false_iff]
  intro h2
  unfold hasL at h
  rw [List.any_eq_true] at h
  obtain ⟨x, hx, e⟩ := h
  rw [beq_iff_eq] at e
  subst e
  have := List.all_eq_true.1 h2 _ hx
  revert this
  decide
theorem isQ_tok {v : List UInt8} (h : isQ v = true) : tokL v = false := by
  refine tokL_q ?_
  rw [isQ_eq, Bool.and_eq_true] at h
  have hq := h.1
  unfold quotedL at hq
  rw [Bool.and_eq_true, Bool.and_eq_true] at hq
  obtain ⟨⟨h1, h2⟩, _⟩ := hq
  match v with
  | [] => simp at h1
  | a :: r =>
    have : a = 34 := by simpa using h2
    subst this
    rfl
/-- What impl reads of a parameter. -/
def paramI (s : List UInt8) : Pr × Bool :=
  if isQ (cutT 61 s).2.1 = true then (⟨upS (cutT 61 s).1, unqL (cutT 61 s).2.1⟩, tokL (upS (cutT 61 s).1)) else (⟨upS (cutT 61 s).1, (cutT 61 s).2.1⟩, tokL (upS (cutT 61 s).1) && tokL (cutT 61 s).2.1)
theorem cut_none {s : List UInt8} {b : UInt8} (h : (cutT b s).2.2 = false) : (cutT b s).2.1 = [] := by
  unfold cutT at h ⊢
  simp only at h ⊢
  by_cases hx : ∃ k : Nat, s[k]? = some b
  · exfalso
    have : ∃ k : Nat, s[k]? = some b ∧ ∀ j : Nat, j < k → s[j]? ≠ some b := by
      obtain ⟨k, hk⟩ := hx
      induction k using Nat.strongRecOn with
      | _ k ih =>
        by_cases hj : ∃ j, j < k ∧ s[j]? = some b
        · obtain ⟨j, h1, h2⟩ := hj
          exact ih j h1 h2
        · exact ⟨k, hk, fun j h1 h2 => hj ⟨j, h1, h2⟩⟩
    obtain ⟨k, h1, h2⟩ := this
    rw [cut_here s b k h1 h2] at h
    simp at h
  · rw [cut_not s b (fun j hj => hx ⟨j, hj⟩)]
    rfl
theorem paramI_eq (s : List UInt8) : paramOf s = if (paramI s).2 = true then some (paramI s).1 else none := by
  unfold paramOf paramI
  rw [tokL_up]
  cases hc : (cutT 61 s).2.2 with
  | false =>
    rw [cut_none hc]
    simp [isQ, tokL, Lib.hasPrefix]
  | true =>
    cases hq : isQ (cutT 61 s).2.1 with
    | true =>
      have h1 := isQ_tok hq
      rw [isQ_eq, Bool.and_eq_true] at hq
      have h2 : hasL 34 (((cutT 61 s).2.1.drop 1).take ((cutT 61 s).2.1.length - 2)) = false := by simpa using hq.2
      cases ht : tokL (cutT 61 s).1 with
      | false => simp
      | true =>
        simp [valOf, h1, hq.1]
        simpa using h2
    | false =>
      rw [isQ_eq] at hq
      cases ht : tokL (cutT 61 s).1 with
      | false => simp
      | true =>
        cases hv : tokL (cutT 61 s).2.1 with
        | true => simp [valOf, hv]
        | false =>
          rw [Bool.and_eq_false_iff] at hq
          simp [valOf, hv]
          intro h1
          rcases hq with h2 | h2
          · rw [h1] at h2; cases h2
          · simpa using h2
end Go.Proofs.YtjleadlecdcdeaaDoor

/-
  A function of the program that tells something of a byte.
-/
namespace Go.Proofs.YtjleadlecdcdeaaDoor
set_option linter.unusedVariables false
open Go.RowKit

/-- A function of the program that tells something of a byte. -/
structure Fits (K : FuncId) (p : UInt8 → Bool) : Prop where
  goes : ∀ (b : UInt8) (w : World), Calls Tryd.prog K #[.int .u8 b.toNat] w fun e w' => e = .returned (.bool (p b)) ∧ w = w'
  enters : Enters Tryd.prog K
end Go.Proofs.YtjleadlecdcdeaaDoor

/-
  The walk of impl's all, for every function that tells something of a byte.
-/
namespace Go.Proofs.YtjleadlecdcdeaaDoor
set_option linter.unusedVariables false
open Go.RowKit

set_option maxRecDepth 100000 in
set_option maxHeartbeats 400000 in
theorem all_any (K : FuncId) (p : UInt8 → Bool) (hK : Fits K p) (s : ByteArray) (w : World) (hs : s.size ≤ 1000000000) :
    Calls Tryd.prog 53 #[.string s, .func (.func K) #[] #[]] w fun e w' => e = .returned (.bool (s.data.toList.all p)) ∧ w' = w := by
  generalize hH : s.data.toList.all p = H
  have HH := Lib.hid hH
  have FK := Lib.hid hK
  clear hH hK
  go_enter Tryd.func53, Tryd.ntmps53
  go_wp2
  go_loopw [8] (fun i wr => ∃ k : Nat, k ≤ s.size ∧ i = .int .i64 (k : Int) ∧ Hid ((s.data.toList.take k).all p = true) ∧ wr = w) (fun i _ => s.size - (intOf i).toNat)
  case atStart => exact ⟨0, by omega, rfl, Lib.hid rfl, rfl⟩
  case round =>
    obtain ⟨k, hk, rfl, HN, rfl⟩ := hrel
    have hlen : s.data.toList.length = s.size := by simp
    by_cases hlt : k < s.size
    · have AT := Lib.hid (fun w => FK.out.goes s[k] w)
      have EN := Lib.hid (fun w => FK.out.enters #[.int .u8 s[k].toNat] w)
      cases ha : p s[k] with
      | true =>
        rw [ha] at AT
        have HN2 : Hid ((s.data.toList.take (k + 1)).all p = true) := Lib.hid (by rw [all_take p _ k (by omega), HN.out, byte_at s k hlt, ha]; rfl)
        clear ha hlen
        go_wp2_with fail
        rw [EN.out]
        go_wp2_with fail
        refine (AT.out _).mono ?_
        rintro e w1 ⟨rfl, rfl⟩
        go_wp2_with fail
        go_roundw
        case rel => exact ⟨k + 1, by omega, by go_num, HN2, trivial⟩
        case measure => simp [intOf]; omega
      | false =>
        rw [ha] at AT
        have HT : Hid (H = false) := Lib.hid (by
          rw [← HH.out]
          exact all_false p _ k (by omega) (by rw [byte_at s k hlt, ha]))
        clear ha hlen
        go_wp2_with fail
        rw [EN.out]
        go_wp2_with fail
        refine (AT.out _).mono ?_
        rintro e w1 ⟨rfl, rfl⟩
        go_wp2_with fail
        go_ret
        exact ⟨by rw [HT.out]; rfl, rfl⟩
    · have HF : Hid (H = true) := Lib.hid (by
        have hall := HN.out
        rw [List.take_of_length_le (by omega)] at hall
        rw [← HH.out]
        exact hall)
      clear hlen
      go_wp2_with fail
      go_ret
      exact ⟨by rw [HF.out]; rfl, rfl⟩

end Go.Proofs.YtjleadlecdcdeaaDoor

/-
  The walk of impl's isVisible.
-/
namespace Go.Proofs.YtjleadlecdcdeaaDoor
set_option linter.unusedVariables false
open Go.RowKit

theorem vis_any (b : UInt8) (w : World) : Calls Tryd.prog 68 #[.int .u8 b.toNat] w fun e w' => e = .returned (.bool (nameB b)) ∧ w = w' := by
  unfold nameB
  by_cases h1 : 33 ≤ b.toNat
  · have g1 : decide ((32 : Int) < (b.toNat : Int)) = true := by simp; omega
    rw [decide_eq_true h1]
    by_cases h2 : b.toNat ≤ 126
    · rw [decide_eq_true h2]
      have g2 : decide ((b.toNat : Int) < 127) = true := by simp; omega
      go_enter Tryd.func68, Tryd.ntmps68
      go_wp2_with fail
      go_ret
      exact ⟨rfl, rfl⟩
    · rw [decide_eq_false h2]
      have g2 : decide ((b.toNat : Int) < 127) = false := by simp; omega
      go_enter Tryd.func68, Tryd.ntmps68
      go_wp2_with fail
      go_ret
      exact ⟨rfl, rfl⟩
  · have g1 : decide ((32 : Int) < (b.toNat : Int)) = false := by simp; omega
    rw [decide_eq_false h1]
    go_enter Tryd.func68, Tryd.ntmps68
    go_wp2_with fail
    go_ret
    exact ⟨rfl, rfl⟩
theorem fits_vis : Fits 68 nameB := ⟨vis_any, enters_of Tryd.func68 (by kernel_rfl) rfl⟩
end Go.Proofs.YtjleadlecdcdeaaDoor

/-
  Words: a byte that is found stands there.
-/
namespace Go.Proofs.YtjleadlecdcdeaaDoor
set_option linter.unusedVariables false
open Go.RowKit

theorem index_has (l : List UInt8) (c : UInt8) : decide (Lib.indexByte l c < 0) = !hasL c l := by
  have hge := Lib.indexByte_ge l c
  cases h : hasL c l with
  | true =>
    have : ¬ Lib.indexByte l c < 0 := by
      intro hn
      have h1 : Lib.indexByte l c = -1 := by omega
      have h2 := Lib.indexByte_none h1
      unfold hasL at h
      rw [List.any_eq_true] at h
      obtain ⟨x, hx, hxc⟩ := h
      obtain ⟨k, hk⟩ := List.mem_iff_getElem?.1 hx
      exact h2 k (by rw [hk, beq_iff_eq.1 hxc])
    simp [this]
  | false =>
    have : Lib.indexByte l c < 0 := by
      rcases Int.lt_or_le (Lib.indexByte l c) 0 with h1 | h1
      · exact h1
      · obtain ⟨o, ho⟩ := Int.eq_ofNat_of_zero_le h1
        have h2 := (Lib.indexByte_some ho).1
        have : hasL c l = true := by
          unfold hasL
          rw [List.any_eq_true]
          exact ⟨c, List.mem_of_getElem? h2, beq_self_eq_true _⟩
        rw [h] at this
        cases this
    simp [this]
end Go.Proofs.YtjleadlecdcdeaaDoor

/-
  Tokens: the walks of impl's inToken, isToken, isQuoted.
-/
namespace Go.Proofs.YtjleadlecdcdeaaDoor
set_option linter.unusedVariables false
open Go.RowKit

set_option maxRecDepth 100000 in
set_option maxHeartbeats 400000 in
theorem tok_one (b : UInt8) (w : World) : Calls Tryd.prog 54 #[.int .u8 b.toNat] w fun e w' => e = .returned (.bool (tokB b)) ∧ w = w' := by
  have VA := Lib.hid (fun w => vis_any b w)
  have IB := Lib.hid (fun w => Tryd.strings_IndexByte ⟨#[40, 41, 60, 62, 64, 44, 59, 58, 47, 91, 93, 63, 61, 34, 92]⟩ (b.toNat : Int) w)
  have hb : ((b.toNat : Int)).toNat.toUInt8 = b := by rw [Int.toNat_natCast]; exact UInt8.ofNat_toNat
  rw [hb] at IB
  have hx := index_has specials2 b
  change Hid (∀ w, Calls Tryd.prog _ _ w fun e w' => e = .returned (.int .i64 (Lib.indexByte specials2 b)) ∧ w' = w) at IB
  have ht : tokB b = (nameB b && !hasL b specials2) := by
    unfold tokB nameB
    rw [Bool.decide_and]
  rw [ht, ← hx]
  generalize Lib.indexByte specials2 b = ix at *
  cases hn : nameB b with
  | false =>
    rw [hn] at VA
    clear hx ht
    go_enter Tryd.func54, Tryd.ntmps54
    go_wp2_with (go_at_call 68; refine (VA.out _).mono ?_; rintro e w1 ⟨rfl, rfl⟩)
    go_ret
    exact ⟨rfl, rfl⟩
  | true =>
    rw [hn] at VA
    clear hx ht
    go_enter Tryd.func54, Tryd.ntmps54
    go_wp2_with (first | (go_at_call 68; refine (VA.out _).mono ?_; rintro e w1 ⟨rfl, rfl⟩) | (go_at_call 69; refine (IB.out _).mono ?_; rintro e w2 ⟨rfl, rfl⟩))
    go_ret
    exact ⟨by simp, rfl⟩
theorem fits_token : Fits 54 tokB := ⟨tok_one, enters_of Tryd.func54 (by kernel_rfl) rfl⟩

set_option maxRecDepth 100000 in
set_option maxHeartbeats 400000 in
theorem isToken_any (s : ByteArray) (w : World) (hs : s.size ≤ 1048576) :
    Calls Tryd.prog 39 #[.string s] w fun e w' => e = .returned (.bool (tokL s.data.toList)) ∧ w' = w := by
  have AL := Lib.hid (fun w => all_any _ tokB fits_token s w (by omega))
  unfold tokL
  by_cases h0 : s.data.toList = []
  · have g1 : (s.toList != []) = false := by rw [Lib.toList_data, h0]; rfl
    have g2 : s.toList = [] := by rw [Lib.toList_data, h0]
    rw [h0]
    clear h0 AL
    go_enter Tryd.func39, Tryd.ntmps39
    go_wp2_with fail
    go_ret
    exact ⟨rfl, rfl⟩
  · have g1 : (s.toList != []) = true := by rw [Lib.toList_data]; simpa using h0
    have g2 : ¬ s.toList = [] := by rw [Lib.toList_data]; exact h0
    have h2 : s.data.toList.isEmpty = false := by rw [List.isEmpty_eq_false_iff]; exact h0
    rw [h2]
    generalize s.data.toList.all tokB = r at AL ⊢
    clear h0 h2
    go_enter Tryd.func39, Tryd.ntmps39
    go_wp2_with (go_at_call 53; refine (AL.out _).mono ?_; rintro e w1 ⟨rfl, rfl⟩)
    go_ret
    exact ⟨by simp [g2], rfl⟩

set_option maxRecDepth 100000 in
set_option maxHeartbeats 400000 in
theorem isQuoted_any (s : ByteArray) (w : World) (hs : s.size ≤ 1048576) :
    Calls Tryd.prog 41 #[.string s] w fun e w' => e = .returned (.bool (isQ s.data.toList)) ∧ w' = w := by
  have HP := Lib.hid (fun w => Tryd.strings_HasPrefix s ⟨#[34]⟩ w)
  have HS := Lib.hid (fun w => Tryd.strings_HasSuffix s ⟨#[34]⟩ w (by omega))
  have HC := Lib.hid (fun w => Tryd.strings_Count_one s 34 w)
  rw [show (⟨#[34]⟩ : ByteArray).data.toList = [34] from rfl] at HP HS
  unfold isQ
  generalize Lib.hasPrefix s.data.toList [34] = p at *
  generalize Lib.hasSuffix s.data.toList [34] = q at *
  generalize Lib.countByte s.data.toList 34 = n at *
  cases p with
  | false =>
    go_enter Tryd.func41, Tryd.ntmps41
    go_wp2_with (go_at_call 62; refine (HP.out _).mono ?_; rintro e w1 ⟨rfl, rfl⟩)
    go_ret
    exact ⟨rfl, rfl⟩
  | true =>
    cases q with
    | false =>
      go_enter Tryd.func41, Tryd.ntmps41
      go_wp2_with (first | (go_at_call 62; refine (HP.out _).mono ?_; rintro e w1 ⟨rfl, rfl⟩) | (go_at_call 63; refine (HS.out _).mono ?_; rintro e w2 ⟨rfl, rfl⟩))
      go_ret
      exact ⟨rfl, rfl⟩
    | true =>
      go_enter Tryd.func41, Tryd.ntmps41
      go_wp2_with (first | (go_at_call 62; refine (HP.out _).mono ?_; rintro e w1 ⟨rfl, rfl⟩) | (go_at_call 63; refine (HS.out _).mono ?_; rintro e w2 ⟨rfl, rfl⟩) | (go_at_call 64; refine (HC.out _).mono ?_; rintro e w3 ⟨rfl, rfl⟩))
      go_ret
      exact ⟨rfl, rfl⟩
end Go.Proofs.YtjleadlecdcdeaaDoor

/-
  The walk of impl's Trim.
-/
namespace Go.Proofs.YtjleadlecdcdeaaDoor
set_option linter.unusedVariables false
open Go.RowKit Go.Shelf

set_option maxHeartbeats 1000000 in
theorem implTrim_any (s : ByteArray) (w : World) (hs : s.size ≤ 9223372036854775807) :
    Calls Tryd.prog 22 #[.string s] w fun e w' => e = .returned (.string ⟨(Lib.trimS s.data.toList [32, 9]).toArray⟩) ∧ Below w.heap.size w w' := by
  have hcon := Any.strings_Trim_laid Tryd.lays160 (by kernel_rfl) s ⟨#[32, 9]⟩ w hs (by decide) (Go.Proofs.ascii_of_all (by decide))
  change Calls Tryd.prog 40 _ _ (fun e w' => e = .returned (.string ⟨(Lib.trimS s.data.toList [32, 9]).toArray⟩) ∧ Below w.heap.size w w') at hcon
  generalize (⟨(Lib.trimS s.data.toList [32, 9]).toArray⟩ : ByteArray) = r at hcon ⊢
  have HC := Lib.hid hcon
  clear hcon
  go_enter Tryd.func22, Tryd.ntmps22
  go_wp2_with (go_at_call 40; refine HC.out.mono ?_; rintro e w' ⟨rfl, hB⟩)
  go_ret
  exact ⟨rfl, hB⟩
end Go.Proofs.YtjleadlecdcdeaaDoor

/-
  The walks of impl.Upper, of Same, and of the exact laws on both.
-/
namespace Go.Proofs.YtjleadlecdcdeaaDoor
set_option linter.unusedVariables false
open Go.RowKit

theorem tab_at (b : UInt8) : (tabUp2 123)[b.toNat]? = some (bv (upB b)) := by
  have := b.toNat_lt
  rw [tabUp2_get, if_pos (by omega)]
  unfold bv
  rw [upB_nat]
  by_cases h : 97 ≤ b.toNat ∧ b.toNat ≤ 122
  · rw [if_pos h, if_pos (by omega)]
  · rw [if_neg h, if_neg (by omega)]

theorem cell_far (w : World) (p a : Addr) (v : Value) (h : p.block ≠ a.block) : (w.setCell p v).cell? a = w.cell? a := by
  simp only [World.cell?, Below.heap_setCell w p v a.block (Ne.symm h)]

/-- A table in a block of its own. -/
def TabAt (w : World) (g : Nat) (C : Array Value) : Prop := ∀ j, w.cell? ⟨g, j, none⟩ = C[j]?

set_option maxRecDepth 100000 in
set_option maxHeartbeats 400000 in
theorem implUpper_any (s : ByteArray) (w : World) (hs : s.size ≤ maxLen) :
    Calls Tryd.prog 13 #[.string s] w fun e w' => e = .returned (.string ⟨(upS s.data.toList).toArray⟩) ∧ Below w.heap.size w w' := by
  unfold maxLen at hs
  obtain ⟨hz, hs256⟩ := zero_of_info info256
  obtain ⟨C0, HC0⟩ : ∃ C, Hid (C = z256) := ⟨_, Lib.hid rfl⟩
  rw [← HC0.out] at hz
  obtain ⟨T, HT⟩ : ∃ C, Hid (C = tabUp2 123) := ⟨_, Lib.hid rfl⟩
  have Htab := upperTable_any w
  rw [← HT.out] at Htab
  have HTAB := Lib.hid Htab
  clear Htab
  have hTs : T.size = 256 := by rw [HT.out, tabUp2_size]
  have hC : C0.size = 256 := by rw [HC0.out]; rfl
  have HALL : Hid (T.all (·.oneCell') = true) := Lib.hid (by rw [HT.out]; exact tabUp2_one _)
  have HS : Hid ((Tryd.prog.info? 51).map (·.size) = some T.size) := Lib.hid (by rw [hs256, hTs])
  have HCS : Hid (C0.size = T.size) := Lib.hid (by rw [hC, hTs])
  clear hTs hC hs256
  go_enter Tryd.func13, Tryd.ntmps13
  go_wp2_with (first | (go_at_call 32; refine HTAB.out.mono ?_; rintro e w1 ⟨rfl, hB1⟩; obtain ⟨W, cap, hconv, hbuf, hbel, hsz⟩ := conv_bytes (P := Tryd.prog) (w1.alloc (.cells T 51)) 9 22 5 s Tryd.underlying9 Tryd.underlying22 Tryd.underlying5; have HSZ := Lib.hid hsz; clear hsz) | (refine wpList_store_row rfl 51 _ _ rfl w1.heap.size T rfl rfl 51 C0 (heap_alloc_new _ _) HS.out HCS.out HALL.out ?_; rw [World.setRow_alloc_new]))
  have hsz1 : (w1.alloc (.cells T 51)).heap.size = w1.heap.size + 1 := by simp
  rw [hsz1] at hbuf hbel
  have htab : ∀ j, W.cell? ⟨w1.heap.size, j, none⟩ = T[j]? := fun j => by
    have h1 : W.heap[w1.heap.size]? = (w1.alloc (.cells T 51)).heap[w1.heap.size]? := hbel.block _ (by omega)
    rw [heap_alloc_new] at h1
    simp [World.cell?, h1]
  have hBW : Below w.heap.size w W := (hB1.alloc hB1.size _).trans (hbel.mono (by have := hB1.size; omega))
  have HTABLE := Lib.hid htab
  have hle := hB1.size
  clear hsz1 htab hbel hconv
  go_loopw [12] (fun i wr => ∃ k : Nat, k ≤ s.size ∧ i = .int .i64 k ∧ Buf wr (w1.heap.size + 1) 5 (mixUp s.data.toList k) ∧ Below w.heap.size w wr ∧ Hid (∀ j, wr.cell? ⟨w1.heap.size, j, none⟩ = T[j]?)) (fun i _ => s.size - (intOf i).toNat)
  case atStart => exact ⟨0, Nat.zero_le _, rfl, by rw [mixUp_zero]; exact hbuf, hBW, HTABLE⟩
  case round =>
    obtain ⟨k, hk, rfl, hb, hB, HTB⟩ := hrel
    have hlen : (mixUp s.data.toList k).length = s.size := by rw [mixUp_len]; simp
    by_cases hlt : k < s.size
    · have hc := hb.cell k (by omega)
      have hf := hb.free k (by omega)
      have hl : k < s.data.toList.length := by simpa using hlt
      rw [mixUp_at _ _ hl] at hc
      generalize hx : s.data.toList.getD k 0 = x at hc
      have hset := mixUp_set s.data.toList k hl
      rw [hx] at hset
      have htx : wr.cell? ⟨w1.heap.size, x.toNat, none⟩ = some (bv (upB x)) := by rw [HTB.out, HT.out]; exact tab_at x
      generalize hy : upB x = y at htx hset
      have hx1 : (x.toNat : Int) < 256 := by have := x.toNat_lt; omega
      have HST := Lib.hid (hb.store k (by omega) y)
      have HSET := Lib.hid hset
      have HX := Lib.hid hx
      have HY := Lib.hid hy
      have HLEN := Lib.hid hlen
      unfold bv at hc htx
      clear hset hx hlen hy hbuf hBW
      go_wp2
      go_roundw
      case rel =>
        refine ⟨k + 1, by omega, by go_num, ?_, hB.setCell (p := ⟨w1.heap.size + 1, k, none⟩) (by show _ ≤ w1.heap.size + 1; omega) _, Lib.hid (fun j => ?_)⟩
        · have h3 := HST.out
          rw [HSET.out] at h3
          exact h3
        · have hq : ∀ v, (wr.setCell ⟨w1.heap.size + 1, k, none⟩ v).cell? ⟨w1.heap.size, j, none⟩ = wr.cell? ⟨w1.heap.size, j, none⟩ := fun v => cell_far wr _ _ v (by show w1.heap.size + 1 ≠ w1.heap.size; omega)
          exact (hq _).trans (HTB.out j)
      case measure => simp [intOf]; omega
    · rw [mixUp_all _ _ (by simp; omega)] at hb
      have hback := hb.back (P := Tryd.prog) 22 9 5 cap s.size (by simp [upS]) Tryd.underlying22 Tryd.underlying5 Tryd.underlying9
      have HLEN := Lib.hid hlen
      clear hlen hbuf
      go_wp2
      go_ret
      exact ⟨rfl, hB⟩
end Go.Proofs.YtjleadlecdcdeaaDoor

/-
  Addresses: the walks of impl's unescape, Unquote.
-/
namespace Go.Proofs.YtjleadlecdcdeaaDoor
set_option linter.unusedVariables false
open Go.RowKit

theorem escA_on (l : List UInt8) (k : Nat) (b : UInt8) (h : l[k]? = some b) : unescA true (l.drop k) = b :: unescA false (l.drop (k + 1)) := by
  have a1 := (List.getElem?_eq_some_iff.1 h).1
  rw [List.getElem?_eq_getElem a1] at h
  rw [List.drop_eq_getElem_cons a1, Option.some.inj h]
  rfl
theorem escA_mark (l : List UInt8) (k : Nat) (h : l[k]? = some 92) (h2 : k + 1 < l.length) : unescA false (l.drop k) = unescA true (l.drop (k + 1)) := by
  have a1 := (List.getElem?_eq_some_iff.1 h).1
  rw [List.getElem?_eq_getElem a1] at h
  rw [List.drop_eq_getElem_cons a1, Option.some.inj h, List.drop_eq_getElem_cons h2]
  simp [unescA, unesc]
theorem escA_off (l : List UInt8) (k : Nat) (b : UInt8) (h : l[k]? = some b) (h2 : b ≠ 92 ∨ l.length ≤ k + 1) (e : Bool) (h3 : l.length ≤ k + 1 ∨ e = false) : unescA false (l.drop k) = b :: unescA e (l.drop (k + 1)) := by
  have h4 : unescA e (l.drop (k + 1)) = unescA false (l.drop (k + 1)) := by
    rcases h3 with h3 | h3
    · rw [List.drop_eq_nil_of_le h3]
      cases e <;> rfl
    · rw [h3]
  rw [h4]
  exact unesc_take l k b h h2

set_option maxRecDepth 100000 in
set_option maxHeartbeats 1000000 in
theorem unescape_any (s : ByteArray) (w : World) (hs : s.size ≤ 1048576) :
    Calls Tryd.prog 65 #[.string s] w fun e w' => e = .returned (.string (mkB (unesc s.data.toList))) ∧ Below w.heap.size w w' := by
  obtain ⟨i0, hi, hz0, hz1, hz2⟩ := info_parts infoByteJ
  obtain ⟨R, hR2⟩ : ∃ R, unesc s.data.toList = R := ⟨_, rfl⟩
  rw [hR2]
  have HR : Hid (unescA false (s.data.toList.drop 0) = R) := Lib.hid (by rw [List.drop_zero]; exact hR2)
  clear hR2
  have hlen : s.data.toList.length = s.size := by simp
  have HLEN := Lib.hid hlen
  clear hlen
  go_enter Tryd.func65, Tryd.ntmps65
  go_wp2
  go_loopw [3, 4, 8] (fun o c i wr => ∃ (k : Nat) (L : List UInt8) (e : Bool), k ≤ s.size ∧ i = .int .i64 (k : Int) ∧ c = .bool e ∧ Hid (L ++ unescA e (s.data.toList.drop k) = R) ∧ L.length ≤ k ∧ wr.ownsRow w.heap.size 5 1 o L.length (L.map bv) ∧ Below w.heap.size w wr) (fun _ _ i _ => s.size - (intOf i).toNat)
  case atStart => exact ⟨0, [], false, Nat.zero_le _, rfl, rfl, HR, Nat.le_refl _, World.ownsRow_nil _ _ _ _, Below.refl _ _⟩
  case round =>
    obtain ⟨k, L, e, hk, rfl, rfl, HL, hLl, hown, hB⟩ := hrel
    have hsz := hB.size
    clear HR
    by_cases hlt : k < s.size
    · have d1 : decide ((k : Int) < (s.size : Int)) = true := by simp; omega
      have j1 : (0 : Int) ≤ (k : Int) := by omega
      have j2 : (k : Int) < (s.size : Int) := by omega
      have hb := byte_some s k hlt
      have hll := HLEN.out
      cases e with
      | true =>
        have HN : Hid ((L ++ [s[k]]) ++ unescA false (s.data.toList.drop (k + 1)) = R) := Lib.hid (by rw [← HL.out, escA_on _ k _ hb, List.append_assoc]; rfl)
        clear hb HL hll
        by_cases h92 : s[k] = 92
        · have d2 : ((s[k].toNat : Int) == 92) = true := by rw [h92]; rfl
          clear h92
          go_wp2_with (first | (at_builtin; refine wpList_append_own _ rfl _ _ 22 rfl w.heap.size 5 i0 (.int .u8 0) 1 1 Tryd.underlying22 hi hz0 hz1 hz2 rfl (by decide) _ _ _ rfl (hown.alloc _) ⟨wr.heap.size, 0, none⟩ 1 1 [.int .u8 (s[k].toNat : Int)] rfl rfl (cell_one_new _ _ _) (by simp [Value.oneCell']) (by unfold maxLen; omega) (by omega) (by simp; omega) ?_; intro v3 w3 hO3 hg3 _; have hB3 : Below w.heap.size w w3 := (hB.alloc hsz _).grown hg3 (by simp; omega) (fun k e => (hown.lt k e).1)))
          have hrow : w3.ownsRow w.heap.size 5 1 v3 (L ++ [s[k]]).length ((L ++ [s[k]]).map bv) := by simpa [bv] using hO3
          clear hown hO3 hg3
          go_wp2_with fail
          go_roundw
          case rel => exact ⟨k + 1, L ++ [s[k]], false, by omega, by go_num, rfl, HN, by simp; omega, hrow, hB3⟩
          case measure => simp [intOf]; omega
        · have d2 : ((s[k].toNat : Int) == 92) = false := ne_byte (b := 92) h92
          clear h92
          go_wp2_with (first | (at_builtin; refine wpList_append_own _ rfl _ _ 22 rfl w.heap.size 5 i0 (.int .u8 0) 1 1 Tryd.underlying22 hi hz0 hz1 hz2 rfl (by decide) _ _ _ rfl (hown.alloc _) ⟨wr.heap.size, 0, none⟩ 1 1 [.int .u8 (s[k].toNat : Int)] rfl rfl (cell_one_new _ _ _) (by simp [Value.oneCell']) (by unfold maxLen; omega) (by omega) (by simp; omega) ?_; intro v3 w3 hO3 hg3 _; have hB3 : Below w.heap.size w w3 := (hB.alloc hsz _).grown hg3 (by simp; omega) (fun k e => (hown.lt k e).1)))
          have hrow : w3.ownsRow w.heap.size 5 1 v3 (L ++ [s[k]]).length ((L ++ [s[k]]).map bv) := by simpa [bv] using hO3
          clear hown hO3 hg3
          go_wp2_with fail
          go_roundw
          case rel => exact ⟨k + 1, L ++ [s[k]], false, by omega, by go_num, rfl, HN, by simp; omega, hrow, hB3⟩
          case measure => simp [intOf]; omega
      | false =>
        by_cases h92 : s[k] = 92
        · have d2 : ((s[k].toNat : Int) == 92) = true := by rw [h92]; rfl
          by_cases hl : k + 1 < s.size
          · have d3 : ((k : Int) == (s.size : Int) - 1) = false := by rw [beq_eq_false_iff_ne]; omega
            have HN : Hid (L ++ unescA true (s.data.toList.drop (k + 1)) = R) := Lib.hid (by rw [← HL.out, escA_mark _ k (by rw [hb, h92]) (by omega)])
            clear hb HL hll h92
            go_wp2_with fail
            go_roundw
            case rel => exact ⟨k + 1, L, true, by omega, by go_num, rfl, HN, by omega, hown, hB⟩
            case measure => simp [intOf]; omega
          · have d3 : ((k : Int) == (s.size : Int) - 1) = true := by rw [beq_iff_eq]; omega
            have HN : Hid ((L ++ [s[k]]) ++ unescA true (s.data.toList.drop (k + 1)) = R) := Lib.hid (by rw [← HL.out, escA_off _ k _ hb (.inr (by omega)) true (.inl (by omega)), List.append_assoc]; rfl)
            clear hb HL hll h92
            go_wp2_with (first | (at_builtin; refine wpList_append_own _ rfl _ _ 22 rfl w.heap.size 5 i0 (.int .u8 0) 1 1 Tryd.underlying22 hi hz0 hz1 hz2 rfl (by decide) _ _ _ rfl (hown.alloc _) ⟨wr.heap.size, 0, none⟩ 1 1 [.int .u8 (s[k].toNat : Int)] rfl rfl (cell_one_new _ _ _) (by simp [Value.oneCell']) (by unfold maxLen; omega) (by omega) (by simp; omega) ?_; intro v3 w3 hO3 hg3 _; have hB3 : Below w.heap.size w w3 := (hB.alloc hsz _).grown hg3 (by simp; omega) (fun k e => (hown.lt k e).1)))
            have hrow : w3.ownsRow w.heap.size 5 1 v3 (L ++ [s[k]]).length ((L ++ [s[k]]).map bv) := by simpa [bv] using hO3
            clear hown hO3 hg3
            go_wp2_with fail
            go_roundw
            case rel => exact ⟨k + 1, L ++ [s[k]], true, by omega, by go_num, rfl, HN, by simp; omega, hrow, hB3⟩
            case measure => simp [intOf]; omega
        · have d2 : ((s[k].toNat : Int) == 92) = false := ne_byte (b := 92) h92
          have HN : Hid ((L ++ [s[k]]) ++ unescA false (s.data.toList.drop (k + 1)) = R) := Lib.hid (by rw [← HL.out, escA_off _ k _ hb (.inl h92) false (.inr rfl), List.append_assoc]; rfl)
          clear hb HL hll h92
          go_wp2_with (first | (at_builtin; refine wpList_append_own _ rfl _ _ 22 rfl w.heap.size 5 i0 (.int .u8 0) 1 1 Tryd.underlying22 hi hz0 hz1 hz2 rfl (by decide) _ _ _ rfl (hown.alloc _) ⟨wr.heap.size, 0, none⟩ 1 1 [.int .u8 (s[k].toNat : Int)] rfl rfl (cell_one_new _ _ _) (by simp [Value.oneCell']) (by unfold maxLen; omega) (by omega) (by simp; omega) ?_; intro v3 w3 hO3 hg3 _; have hB3 : Below w.heap.size w w3 := (hB.alloc hsz _).grown hg3 (by simp; omega) (fun k e => (hown.lt k e).1)))
          have hrow : w3.ownsRow w.heap.size 5 1 v3 (L ++ [s[k]]).length ((L ++ [s[k]]).map bv) := by simpa [bv] using hO3
          clear hown hO3 hg3
          go_wp2_with fail
          go_roundw
          case rel => exact ⟨k + 1, L ++ [s[k]], false, by omega, by go_num, rfl, HN, by simp; omega, hrow, hB3⟩
          case measure => simp [intOf]; omega
    · have d1 : decide ((k : Int) < (s.size : Int)) = false := by simp; omega
      have HQ : Hid (L = R) := Lib.hid (by
        have := HL.out
        rw [List.drop_eq_nil_of_le (by have := HLEN.out; omega)] at this
        cases e <;> simpa [unescA, unesc] using this)
      have hback := rowJ_back (P := Tryd.prog) hown 22 9 5 Tryd.underlying22 Tryd.underlying5 Tryd.underlying9
      go_wp2_with fail
      go_ret
      exact ⟨by rw [← HQ.out]; rfl, hB⟩

theorem mid_extract (t : ByteArray) : (t.extract 1 (t.size - 1)).data.toList = midL t := by
  rw [Lib.extract_data]
  unfold midL
  rw [show t.size - 1 - 1 = t.size - 2 by omega]
set_option maxRecDepth 100000 in
set_option maxHeartbeats 1000000 in
theorem implUnquote_any (s : ByteArray) (w : World) (hs : s.size ≤ 1048576) :
    Calls Tryd.prog 42 #[.string s] w fun e w' => e = .returned (.string (mkB (unqL s.data.toList))) ∧ Below w.heap.size w w' := by
  have TR := Lib.hid (fun w => implTrim_any s w (by omega))
  unfold unqL
  have htl := trimLen s.data.toList [32, 9]
  generalize Lib.trimS s.data.toList [32, 9] = T at TR htl ⊢
  obtain ⟨t, rfl⟩ : ∃ t : ByteArray, T = t.data.toList := ⟨mkB T, rfl⟩
  rw [show (⟨t.data.toList.toArray⟩ : ByteArray) = t from rfl] at TR
  have hts : t.size ≤ 1048576 := by simp at htl; omega
  clear htl
  by_cases h2 : t.size < 2
  · have g1 : decide ((t.size : Int) < 2) = true := by simp; omega
    unfold unqT
    rw [quoted_small t h2, if_neg (by simp), show mkB t.data.toList = t from rfl]
    clear h2
    go_enter Tryd.func42, Tryd.ntmps42
    go_wp2_with fail
    refine (TR.out _).mono ?_
    rintro e w1 ⟨rfl, hB1⟩
    go_wp2_with fail
    go_ret
    exact ⟨rfl, hB1⟩
  · have g1 : decide ((t.size : Int) < 2) = false := by simp; omega
    have i0' : 0 < t.size := by omega
    have i1 : (0 : Int) ≤ (t.size : Int) - 1 := by omega
    have i2 : (t.size : Int) - 1 < (t.size : Int) := by omega
    have i3 : t.size - 1 < t.size := by omega
    have i4 : (1 : Int) ≤ (t.size : Int) - 1 := by omega
    have i5 : (t.size : Int) - 1 ≤ (t.size : Int) := by omega
    have hq := quoted_is t (by omega)
    by_cases h0 : t[0] = 34
    · have g2 : ((t[0].toNat : Int) != 34) = false := eq_form (c := 34) h0
      by_cases hL : t[t.size - 1] = 34
      · have g3 : ((t[t.size - 1].toNat : Int) != 34) = false := eq_form (c := 34) hL
        rw [h0, hL] at hq
        have hR : unqT t.data.toList = unesc (midL t) := by
          unfold unqT midL
          rw [hq]
          simp
        have UE := Lib.hid (fun w => unescape_any (t.extract 1 (t.size - 1)) w (by rw [ByteArray.size_extract]; omega))
        rw [mid_extract t] at UE
        rw [hR]
        have H2 : Hid (2 ≤ t.size) := Lib.hid (by omega)
        clear hR hq h0 hL h2
        go_enter Tryd.func42, Tryd.ntmps42
        go_wp2_with fail
        refine (TR.out _).mono ?_
        rintro e w1 ⟨rfl, hB1⟩
        go_wp2_with fail
        refine (UE.out _).mono ?_
        rintro e w2 ⟨rfl, hB2⟩
        go_wp2_with fail
        go_ret
        exact ⟨rfl, hB1.trans (hB2.mono hB1.size)⟩
      · have g3 : ((t[t.size - 1].toNat : Int) != 34) = true := ne_form (c := 34) hL
        unfold unqT
        rw [hq, h0, beq_eq_false_iff_ne.2 hL, if_neg (by simp), show mkB t.data.toList = t from rfl]
        clear hq h0 hL h2
        go_enter Tryd.func42, Tryd.ntmps42
        go_wp2_with fail
        refine (TR.out _).mono ?_
        rintro e w1 ⟨rfl, hB1⟩
        go_wp2_with fail
        go_ret
        exact ⟨rfl, hB1⟩
    · have g2 : ((t[0].toNat : Int) != 34) = true := ne_form (c := 34) h0
      unfold unqT
      rw [hq, beq_eq_false_iff_ne.2 h0, if_neg (by simp), show mkB t.data.toList = t from rfl]
      clear hq h0 h2
      go_enter Tryd.func42, Tryd.ntmps42
      go_wp2_with fail
      refine (TR.out _).mono ?_
      rintro e w1 ⟨rfl, hB1⟩
      go_wp2_with fail
      go_ret
      exact ⟨rfl, hB1⟩
end Go.Proofs.YtjleadlecdcdeaaDoor

/-
  A region that draws its order, by hand: an operation is taken first, the slot that it writes being named.
-/
namespace Go.Proofs.YtjleadlecdcdeaaDoor
open Go

section
variable {P : Program} {ops : Array Oper} {Q : Exit → Act → World → Prop} {md : Region.Mode} {S : World → Prop}
theorem take_on {i : Nat} (d : Option Tmp) (v : Value) {oi : Oper} {fuel : Nat} {listed : Array Bool} {a : Act} {w : World} (hi : ops[i]? = some oi) (hd : oi.dst = d)
    (hs : Region.noSelect ops = true) (hf : Region.free md ops listed i = true) (hr : (Region.ready md ops listed).contains i = true)
    (hQ : ∀ c a w, Q (.panic c) (a.put oi.dst v) w → Q (.panic c) a w) (hw : Region.wanted oi (yielded ops a.tmps) = true) (hS : S w)
    (h : wpAnyH P md ops Q S fuel (listed.setIfInBounds i true) (a.put d v) w)
    (hy : ∀ w, S w → (execOp a.eval oi).run P w = .ok (.value v) w) : wpAnyH P md ops Q S (fuel + 1) listed a w := by
  subst hd
  exact wpAnyH_take hi hs hf hr hQ (.inl ⟨hw, hy⟩) hS h
theorem take_off {i : Nat} (d : Option Tmp) {oi : Oper} {fuel : Nat} {listed : Array Bool} {a : Act} {w : World} (hi : ops[i]? = some oi) (hd : oi.dst = d)
    (hs : Region.noSelect ops = true) (hf : Region.free md ops listed i = true) (hr : (Region.ready md ops listed).contains i = true)
    (hQ : ∀ c a w, Q (.panic c) (a.put oi.dst undef) w → Q (.panic c) a w) (hw : Region.wanted oi (yielded ops a.tmps) = false) (hS : S w)
    (h : wpAnyH P md ops Q S fuel (listed.setIfInBounds i true) (a.put d undef) w) : wpAnyH P md ops Q S (fuel + 1) listed a w := by
  subst hd
  exact wpAnyH_take hi hs hf hr hQ (.inr ⟨hw, rfl⟩) hS h
end
end Go.Proofs.YtjleadlecdcdeaaDoor

/-
  Kinds: the walks of impl's readType, readParam.
-/
namespace Go.Proofs.YtjleadlecdcdeaaDoor
set_option linter.unusedVariables false
open Go.RowKit

set_option maxRecDepth 100000 in
set_option maxHeartbeats 1000000 in
theorem readType_any (s : ByteArray) (w : World) (hs : s.size ≤ 1048576) (hM : MaxLenAt w) :
    Calls Tryd.prog 21 #[.string s] w fun e w' => e = .returned (.tuple #[.agg #[.string (mkB (upS (cutT 47 s.data.toList).1)), .string (mkB (upS (cutT 47 s.data.toList).2.1)), .slice none 0 0], .bool (tokL (upS (cutT 47 s.data.toList).1) && tokL (upS (cutT 47 s.data.toList).2.1))]) ∧ Below w.heap.size w w' := by
  obtain ⟨m, hm⟩ := hM
  have W0 : Below w.heap.size w (w.alloc (.cells #[.string ⟨#[]⟩, .string ⟨#[]⟩, .slice none 0 0] 27)) := (Below.refl _ _).alloc (Nat.le_refl _) _
  have N0 := Lib.hid (new_three w (.string ⟨#[]⟩) (.string ⟨#[]⟩) (.slice none 0 0) 27)
  have CU := Lib.hid (Tryd.strings_Cut s ⟨#[47]⟩ m _ (by omega) ((W0.cell (p := ⟨0, 0, none⟩) (block_lt_of_cell hm)).trans hm))
  have hl : s.data.toList.length = s.size := by simp
  have hcl : (Lib.cut s.data.toList [47]).1.length ≤ s.data.toList.length ∧ (Lib.cut s.data.toList [47]).2.1.length ≤ s.data.toList.length := by
    unfold Lib.cut
    split <;> simp <;> omega
  have T1 := Lib.hid (fun w => implTrim_any (mkB (Lib.cut s.data.toList [47]).1) w (by rw [mkB_size]; omega))
  have T2 := Lib.hid (fun w => implTrim_any (mkB (Lib.cut s.data.toList [47]).2.1) w (by rw [mkB_size]; omega))
  have hct := cutT_len 47 s.data.toList
  have U1 := Lib.hid (fun w => implUpper_any (mkB (cutT 47 s.data.toList).1) w (by rw [mkB_size]; unfold maxLen; omega))
  have U2 := Lib.hid (fun w => implUpper_any (mkB (cutT 47 s.data.toList).2.1) w (by rw [mkB_size]; unfold maxLen; omega))
  have hu1 : (upS (cutT 47 s.data.toList).1).length ≤ 1048576 := by unfold upS; rw [List.length_map]; omega
  have hu2 : (upS (cutT 47 s.data.toList).2.1).length ≤ 1048576 := by unfold upS; rw [List.length_map]; omega
  have K1 := Lib.hid (fun w => isToken_any (mkB (upS (cutT 47 s.data.toList).1)) w (by rw [mkB_size]; exact hu1))
  have K2 := Lib.hid (fun w => isToken_any (mkB (upS (cutT 47 s.data.toList).2.1)) w (by rw [mkB_size]; exact hu2))
  rw [mkB_list] at T1 T2 U1 U2 K1 K2
  change Hid (∀ w, Calls _ _ _ w fun e w' => e = .returned (.string (mkB (cutT 47 s.data.toList).1)) ∧ _) at T1
  change Hid (∀ w, Calls _ _ _ w fun e w' => e = .returned (.string (mkB (cutT 47 s.data.toList).2.1)) ∧ _) at T2
  change Hid (∀ w, Calls _ _ _ w fun e w' => e = .returned (.string (mkB (upS (cutT 47 s.data.toList).1))) ∧ _) at U1
  change Hid (∀ w, Calls _ _ _ w fun e w' => e = .returned (.string (mkB (upS (cutT 47 s.data.toList).2.1))) ∧ _) at U2
  change Hid (Calls _ _ _ _ fun e w' => e = .returned (.tuple #[.string (mkB (Lib.cut s.data.toList [47]).1), .string (mkB (Lib.cut s.data.toList [47]).2.1), .bool (Lib.cut s.data.toList [47]).2.2]) ∧ _) at CU
  generalize tokL (upS (cutT 47 s.data.toList).1) = p at *
  generalize tokL (upS (cutT 47 s.data.toList).2.1) = q at *
  generalize mkB (upS (cutT 47 s.data.toList).1) = A at *
  generalize mkB (upS (cutT 47 s.data.toList).2.1) = B at *
  generalize mkB (cutT 47 s.data.toList).1 = a at *
  generalize mkB (cutT 47 s.data.toList).2.1 = b at *
  generalize mkB (Lib.cut s.data.toList [47]).1 = c at *
  generalize mkB (Lib.cut s.data.toList [47]).2.1 = d at *
  generalize (Lib.cut s.data.toList [47]).2.2 = r at *
  have B0 := Lib.hid W0
  clear hl hcl hct hu1 hu2 hm W0 hs
  go_enter Tryd.func21, Tryd.ntmps21
  go_wp2_with fail
  obtain ⟨w0, hw0⟩ : ∃ x, w.alloc (.cells #[.string ⟨#[]⟩, .string ⟨#[]⟩, .slice none 0 0] 27) = x := ⟨_, rfl⟩
  rw [hw0] at CU N0 B0 ⊢
  clear hw0
  refine CU.out.mono ?_
  rintro e w1 ⟨rfl, n1, rfl⟩
  have B1 : Hid (Below w0.heap.size w0 (w0.drewN n1)) := Lib.hid ⟨rfl, rfl, rfl, Nat.le_refl _, fun _ _ => rfl⟩
  clear CU
  go_wp2_with fail
  refine (T1.out _).mono ?_
  rintro e w2 ⟨rfl, hB2⟩
  have B2 := Lib.hid (B1.out.trans (hB2.mono B1.out.size))
  clear hB2
  go_wp2_with fail
  refine (U1.out _).mono ?_
  rintro e w3 ⟨rfl, hB3⟩
  have B3 := Lib.hid (B2.out.trans (hB3.mono B2.out.size))
  clear hB3
  go_wp2_with fail
  refine (T2.out _).mono ?_
  rintro e w4 ⟨rfl, hB4⟩
  have B4 := Lib.hid (B3.out.trans (hB4.mono B3.out.size))
  clear hB4
  go_wp2_with fail
  refine (U2.out _).mono ?_
  rintro e w5 ⟨rfl, hB5⟩
  have B5 := Lib.hid (B4.out.trans (hB5.mono B4.out.size))
  clear hB5
  have N5 := Lib.hid ((B5.out.block _ (Array.getElem?_eq_some_iff.1 N0.out).1).trans N0.out)
  have M6 := Lib.hid (new_three w5 (.string A) (.string B) (.slice none 0 0) 27)
  have C6 : Below w5.heap.size w5 (w5.alloc (.cells #[.string A, .string B, .slice none 0 0] 27)) := (Below.refl _ _).alloc (Nat.le_refl _) _
  have N6 := Lib.hid ((C6.block _ (Array.getElem?_eq_some_iff.1 N5.out).1).trans N5.out)
  have B6 := Lib.hid (B0.out.trans ((B5.out.trans (C6.mono B5.out.size)).mono B0.out.size))
  clear C6 T1 T2 U1 U2 B1 B2 B3 B4
  dsimp only
  go_wp2_with fail
  obtain ⟨w6, hw6⟩ : ∃ x, w5.alloc (.cells #[.string A, .string B, .slice none 0 0] 27) = x := ⟨_, rfl⟩
  rw [hw6] at M6 N6 B6 ⊢
  clear hw6
  obtain ⟨_, _, _⟩ := three_cells N6.out
  obtain ⟨_, _, _⟩ := three_free N6.out
  obtain ⟨_, _, _⟩ := three_cells M6.out
  have hne : w5.heap.size ≠ w.heap.size := by
    have h1 := (Array.getElem?_eq_some_iff.1 N5.out).1
    omega
  cases p with
  | false =>
    refine wp_region_noPanic (wp_region_held_drew (S := fun w' => w'.cell? ⟨w5.heap.size, 0, none⟩ = some (.string A) ∧ w'.cell? ⟨w5.heap.size, 1, none⟩ = some (.string B) ∧ w'.cell? ⟨w5.heap.size, 2, none⟩ = some (.slice none 0 0)) (by kernel_rfl) ⟨by assumption, by assumption, by assumption⟩ (fun hHeld => ?_))
    refine take_on (i := 0) (some 21) ?_ rfl rfl (by kernel_rfl) (by kernel_rfl) (by kernel_rfl) (fun _ _ _ h => h) (by rfl) (by assumption) ?_ ?_
    rotate_left 2
    · intro wx hSx
      (try dsimp only at hSx)
      (try obtain ⟨_, _, _⟩ := hSx)
      go_simp
      try with_reducible rfl
    rotate_left
    simp only [Act.put, List.setIfInBounds_toArray, List.set_cons_zero, List.set_cons_succ]
    refine take_on (i := 1) (some 22) ?_ rfl rfl (by kernel_rfl) (by kernel_rfl) (by kernel_rfl) (fun _ _ _ h => h) (by rfl) (by assumption) ?_ ?_
    rotate_left 2
    · intro wx hSx
      (try dsimp only at hSx)
      (try obtain ⟨_, _, _⟩ := hSx)
      go_simp
      try with_reducible rfl
    rotate_left
    simp only [Act.put, List.setIfInBounds_toArray, List.set_cons_zero, List.set_cons_succ]
    refine take_on (i := 2) (some 23) ?_ rfl rfl (by kernel_rfl) (by kernel_rfl) (by kernel_rfl) (fun _ _ _ h => h) (by rfl) (by assumption) ?_ ?_
    rotate_left 2
    · intro wx hSx
      (try dsimp only at hSx)
      (try obtain ⟨_, _, _⟩ := hSx)
      go_simp
      try with_reducible rfl
    rotate_left
    simp only [Act.put, List.setIfInBounds_toArray, List.set_cons_zero, List.set_cons_succ]
    refine wpAnyH_ready (rs := [3]) (by kernel_rfl) (by simp) (AllReadyH.cons rfl (fun K hK => ?_) AllReadyH.nil)
    rw [if_pos (by rfl)]
    go_simp
    refine (K1.out _).mono ?_
    rintro e w7 ⟨rfl, rfl⟩
    refine hK.out _ _ hHeld (fun _ => ?_)
    clear hK
    refine take_on (i := 4) (some 25) ?_ rfl rfl (by kernel_rfl) (by kernel_rfl) (by kernel_rfl) (fun _ _ _ h => h) (by rfl) (by assumption) ?_ ?_
    rotate_left 2
    · intro wx hSx
      (try dsimp only at hSx)
      (try obtain ⟨_, _, _⟩ := hSx)
      go_simp
      try with_reducible rfl
    rotate_left
    simp only [Act.put, List.setIfInBounds_toArray, List.set_cons_zero, List.set_cons_succ]
    refine take_off (i := 5) (some 26) rfl rfl (by kernel_rfl) (by kernel_rfl) (by kernel_rfl) (fun _ _ _ h => h) (by rfl) (by assumption) ?_
    simp only [Act.put, List.setIfInBounds_toArray, List.set_cons_zero, List.set_cons_succ]
    refine take_off (i := 6) (some 27) rfl rfl (by kernel_rfl) (by kernel_rfl) (by kernel_rfl) (fun _ _ _ h => h) (by rfl) (by assumption) ?_
    simp only [Act.put, List.setIfInBounds_toArray, List.set_cons_zero, List.set_cons_succ]
    refine take_off (i := 7) (some 28) rfl rfl (by kernel_rfl) (by kernel_rfl) (by kernel_rfl) (fun _ _ _ h => h) (by rfl) (by assumption) ?_
    simp only [Act.put, List.setIfInBounds_toArray, List.set_cons_zero, List.set_cons_succ]
    refine take_on (i := 8) (some 29) ?_ rfl rfl (by kernel_rfl) (by kernel_rfl) (by kernel_rfl) (fun _ _ _ h => h) (by rfl) (by assumption) ?_ ?_
    rotate_left 2
    · intro wx hSx
      (try dsimp only at hSx)
      (try obtain ⟨_, _, _⟩ := hSx)
      go_simp
      try with_reducible rfl
    rotate_left
    simp only [Act.put, List.setIfInBounds_toArray, List.set_cons_zero, List.set_cons_succ]
    refine wpAnyH_ready (rs := [9]) (by kernel_rfl) (by simp) (AllReadyH.cons rfl (fun K hK => ?_) AllReadyH.nil)
    rw [if_pos (by rfl)]
    go_simp
    have hM : (((w6.drew.setCell ⟨w.heap.size, 0, none⟩ (.string A)).setCell ⟨w.heap.size, 1, none⟩ (.string B)).setCell ⟨w.heap.size, 2, none⟩ (.slice none 0 0)).heap[w5.heap.size]? = _ := ((heap_setCell_other _ _ _ _ hne).trans ((heap_setCell_other _ _ _ _ hne).trans ((heap_setCell_other _ _ _ _ hne).trans M6.out)))
    refine hK.out _ _ (three_cells hM) (fun _ => ?_)
    clear hK hM
    refine take_on (i := 10) (some 3) ?_ rfl rfl (by kernel_rfl) (by kernel_rfl) (by kernel_rfl) (fun _ _ _ h => h) (by rfl) (by assumption) ?_ ?_
    rotate_left 2
    · intro wx hSx
      (try dsimp only at hSx)
      (try obtain ⟨_, _, _⟩ := hSx)
      go_simp
      try with_reducible rfl
    rotate_left
    simp only [Act.put, List.setIfInBounds_toArray, List.set_cons_zero, List.set_cons_succ]
    refine wpAnyH_done (by kernel_rfl) ?_ _
    refine NoPanic.normal ?_
    go_wp2_with fail
    have hq := three_cells (W := (((w6.setCell ⟨w.heap.size, 0, none⟩ (.string A)).setCell ⟨w.heap.size, 1, none⟩ (.string B)).setCell ⟨w.heap.size, 2, none⟩ (.slice none 0 0)).drew) (set_three (W := w6) N6.out (.string A) (.string B) (.slice none 0 0))
    refine bodyPost_ret (v := .tuple #[.agg #[.string A, .string B, .slice none 0 0], .bool false]) (by simp [results, Tryd.results21, go_sem, hq.1, hq.2.1, hq.2.2]) rfl ⟨by simp, ?_⟩
    exact (below_three B6.out (Nat.le_refl _) _ _ _).drew
  | true =>
    refine wp_region_noPanic (wp_region_held_drew (S := fun w' => w'.cell? ⟨w5.heap.size, 0, none⟩ = some (.string A) ∧ w'.cell? ⟨w5.heap.size, 1, none⟩ = some (.string B) ∧ w'.cell? ⟨w5.heap.size, 2, none⟩ = some (.slice none 0 0)) (by kernel_rfl) ⟨by assumption, by assumption, by assumption⟩ (fun hHeld => ?_))
    refine take_on (i := 0) (some 21) ?_ rfl rfl (by kernel_rfl) (by kernel_rfl) (by kernel_rfl) (fun _ _ _ h => h) (by rfl) (by assumption) ?_ ?_
    rotate_left 2
    · intro wx hSx
      (try dsimp only at hSx)
      (try obtain ⟨_, _, _⟩ := hSx)
      go_simp
      try with_reducible rfl
    rotate_left
    simp only [Act.put, List.setIfInBounds_toArray, List.set_cons_zero, List.set_cons_succ]
    refine take_on (i := 1) (some 22) ?_ rfl rfl (by kernel_rfl) (by kernel_rfl) (by kernel_rfl) (fun _ _ _ h => h) (by rfl) (by assumption) ?_ ?_
    rotate_left 2
    · intro wx hSx
      (try dsimp only at hSx)
      (try obtain ⟨_, _, _⟩ := hSx)
      go_simp
      try with_reducible rfl
    rotate_left
    simp only [Act.put, List.setIfInBounds_toArray, List.set_cons_zero, List.set_cons_succ]
    refine take_on (i := 2) (some 23) ?_ rfl rfl (by kernel_rfl) (by kernel_rfl) (by kernel_rfl) (fun _ _ _ h => h) (by rfl) (by assumption) ?_ ?_
    rotate_left 2
    · intro wx hSx
      (try dsimp only at hSx)
      (try obtain ⟨_, _, _⟩ := hSx)
      go_simp
      try with_reducible rfl
    rotate_left
    simp only [Act.put, List.setIfInBounds_toArray, List.set_cons_zero, List.set_cons_succ]
    refine wpAnyH_ready (rs := [3]) (by kernel_rfl) (by simp) (AllReadyH.cons rfl (fun K hK => ?_) AllReadyH.nil)
    rw [if_pos (by rfl)]
    go_simp
    refine (K1.out _).mono ?_
    rintro e w7 ⟨rfl, rfl⟩
    refine hK.out _ _ hHeld (fun _ => ?_)
    clear hK
    refine take_on (i := 4) (some 25) ?_ rfl rfl (by kernel_rfl) (by kernel_rfl) (by kernel_rfl) (fun _ _ _ h => h) (by rfl) (by assumption) ?_ ?_
    rotate_left 2
    · intro wx hSx
      (try dsimp only at hSx)
      (try obtain ⟨_, _, _⟩ := hSx)
      go_simp
      try with_reducible rfl
    rotate_left
    simp only [Act.put, List.setIfInBounds_toArray, List.set_cons_zero, List.set_cons_succ]
    refine take_on (i := 5) (some 26) ?_ rfl rfl (by kernel_rfl) (by kernel_rfl) (by kernel_rfl) (fun _ _ _ h => h) (by rfl) (by assumption) ?_ ?_
    rotate_left 2
    · intro wx hSx
      (try dsimp only at hSx)
      (try obtain ⟨_, _, _⟩ := hSx)
      go_simp
      try with_reducible rfl
    rotate_left
    simp only [Act.put, List.setIfInBounds_toArray, List.set_cons_zero, List.set_cons_succ]
    refine take_on (i := 6) (some 27) ?_ rfl rfl (by kernel_rfl) (by kernel_rfl) (by kernel_rfl) (fun _ _ _ h => h) (by rfl) (by assumption) ?_ ?_
    rotate_left 2
    · intro wx hSx
      (try dsimp only at hSx)
      (try obtain ⟨_, _, _⟩ := hSx)
      go_simp
      try with_reducible rfl
    rotate_left
    simp only [Act.put, List.setIfInBounds_toArray, List.set_cons_zero, List.set_cons_succ]
    refine wpAnyH_ready (rs := [7]) (by kernel_rfl) (by simp) (AllReadyH.cons rfl (fun K hK => ?_) AllReadyH.nil)
    rw [if_pos (by rfl)]
    go_simp
    refine (K2.out _).mono ?_
    rintro e w7 ⟨rfl, rfl⟩
    refine hK.out _ _ hHeld (fun _ => ?_)
    clear hK
    refine take_on (i := 8) (some 29) ?_ rfl rfl (by kernel_rfl) (by kernel_rfl) (by kernel_rfl) (fun _ _ _ h => h) (by rfl) (by assumption) ?_ ?_
    rotate_left 2
    · intro wx hSx
      (try dsimp only at hSx)
      (try obtain ⟨_, _, _⟩ := hSx)
      go_simp
      try with_reducible rfl
    rotate_left
    simp only [Act.put, List.setIfInBounds_toArray, List.set_cons_zero, List.set_cons_succ]
    refine wpAnyH_ready (rs := [9]) (by kernel_rfl) (by simp) (AllReadyH.cons rfl (fun K hK => ?_) AllReadyH.nil)
    rw [if_pos (by rfl)]
    go_simp
    have hM : (((w6.drew.setCell ⟨w.heap.size, 0, none⟩ (.string A)).setCell ⟨w.heap.size, 1, none⟩ (.string B)).setCell ⟨w.heap.size, 2, none⟩ (.slice none 0 0)).heap[w5.heap.size]? = _ := ((heap_setCell_other _ _ _ _ hne).trans ((heap_setCell_other _ _ _ _ hne).trans ((heap_setCell_other _ _ _ _ hne).trans M6.out)))
    refine hK.out _ _ (three_cells hM) (fun _ => ?_)
    clear hK hM
    refine take_on (i := 10) (some 3) ?_ rfl rfl (by kernel_rfl) (by kernel_rfl) (by kernel_rfl) (fun _ _ _ h => h) (by rfl) (by assumption) ?_ ?_
    rotate_left 2
    · intro wx hSx
      (try dsimp only at hSx)
      (try obtain ⟨_, _, _⟩ := hSx)
      go_simp
      try with_reducible rfl
    rotate_left
    simp only [Act.put, List.setIfInBounds_toArray, List.set_cons_zero, List.set_cons_succ]
    refine wpAnyH_done (by kernel_rfl) ?_ _
    refine NoPanic.normal ?_
    go_wp2_with fail
    have hq := three_cells (W := (((w6.setCell ⟨w.heap.size, 0, none⟩ (.string A)).setCell ⟨w.heap.size, 1, none⟩ (.string B)).setCell ⟨w.heap.size, 2, none⟩ (.slice none 0 0)).drew) (set_three (W := w6) N6.out (.string A) (.string B) (.slice none 0 0))
    refine bodyPost_ret (v := .tuple #[.agg #[.string A, .string B, .slice none 0 0], .bool q]) (by simp [results, Tryd.results21, go_sem, hq.1, hq.2.1, hq.2.2]) rfl ⟨by simp, ?_⟩
    exact (below_three B6.out (Nat.le_refl _) _ _ _).drew
end Go.Proofs.YtjleadlecdcdeaaDoor

/-
  Kinds: the walk of impl's readParam.
-/
namespace Go.Proofs.YtjleadlecdcdeaaDoor
set_option linter.unusedVariables false
open Go.RowKit

set_option maxRecDepth 100000 in
set_option maxHeartbeats 2000000 in
theorem readParam_any (s : ByteArray) (w : World) (hs : s.size ≤ 1048576) (hM : MaxLenAt w) :
    Calls Tryd.prog 23 #[.string s] w fun e w' => e = .returned (.tuple #[.agg #[.string (mkB (paramI s.data.toList).1.name), .string (mkB (paramI s.data.toList).1.value)], .bool (paramI s.data.toList).2]) ∧ Below w.heap.size w w' := by
  obtain ⟨m, hm⟩ := hM
  have W0 : Below w.heap.size w (w.alloc (.cells #[.string ⟨#[]⟩, .string ⟨#[]⟩] 45)) := (Below.refl _ _).alloc (Nat.le_refl _) _
  have N0 := Lib.hid (alloc_new w #[.string ⟨#[]⟩, .string ⟨#[]⟩] 45)
  have CU := Lib.hid (Tryd.strings_Cut s ⟨#[61]⟩ m _ (by omega) ((W0.cell (p := ⟨0, 0, none⟩) (block_lt_of_cell hm)).trans hm))
  have hl : s.data.toList.length = s.size := by simp
  have hcl : (Lib.cut s.data.toList [61]).1.length ≤ s.data.toList.length ∧ (Lib.cut s.data.toList [61]).2.1.length ≤ s.data.toList.length := by
    unfold Lib.cut
    split <;> simp <;> omega
  have T1 := Lib.hid (fun w => implTrim_any (mkB (Lib.cut s.data.toList [61]).1) w (by rw [mkB_size]; omega))
  have T2 := Lib.hid (fun w => implTrim_any (mkB (Lib.cut s.data.toList [61]).2.1) w (by rw [mkB_size]; omega))
  have hct := cutT_len 61 s.data.toList
  have U1 := Lib.hid (fun w => implUpper_any (mkB (cutT 61 s.data.toList).1) w (by rw [mkB_size]; unfold maxLen; omega))
  have hu1 : (upS (cutT 61 s.data.toList).1).length ≤ 1048576 := by unfold upS; rw [List.length_map]; omega
  have IQ := Lib.hid (fun w => isQuoted_any (mkB (cutT 61 s.data.toList).2.1) w (by rw [mkB_size]; omega))
  have UQ := Lib.hid (fun w => implUnquote_any (mkB (cutT 61 s.data.toList).2.1) w (by rw [mkB_size]; omega))
  have K1 := Lib.hid (fun w => isToken_any (mkB (upS (cutT 61 s.data.toList).1)) w (by rw [mkB_size]; exact hu1))
  have K2 := Lib.hid (fun w => isToken_any (mkB (cutT 61 s.data.toList).2.1) w (by rw [mkB_size]; omega))
  rw [mkB_list] at T1 T2 U1 K1 K2 IQ UQ
  change Hid (∀ w, Calls _ _ _ w fun e w' => e = .returned (.string (mkB (cutT 61 s.data.toList).1)) ∧ _) at T1
  change Hid (∀ w, Calls _ _ _ w fun e w' => e = .returned (.string (mkB (cutT 61 s.data.toList).2.1)) ∧ _) at T2
  change Hid (∀ w, Calls _ _ _ w fun e w' => e = .returned (.string (mkB (upS (cutT 61 s.data.toList).1))) ∧ _) at U1
  change Hid (Calls _ _ _ _ fun e w' => e = .returned (.tuple #[.string (mkB (Lib.cut s.data.toList [61]).1), .string (mkB (Lib.cut s.data.toList [61]).2.1), .bool (Lib.cut s.data.toList [61]).2.2]) ∧ _) at CU
  unfold paramI
  obtain ⟨g, hg⟩ : ∃ g, isQ (cutT 61 s.data.toList).2.1 = g := ⟨_, rfl⟩
  rw [hg] at IQ ⊢
  clear hg
  obtain ⟨V, hV⟩ : ∃ V : Value, V = .tuple #[.agg #[.string (mkB (if g = true then (⟨upS (cutT 61 s.data.toList).1, unqL (cutT 61 s.data.toList).2.1⟩, tokL (upS (cutT 61 s.data.toList).1)) else (⟨upS (cutT 61 s.data.toList).1, (cutT 61 s.data.toList).2.1⟩, tokL (upS (cutT 61 s.data.toList).1) && tokL (cutT 61 s.data.toList).2.1) : Pr × Bool).1.name), .string (mkB (if g = true then (⟨upS (cutT 61 s.data.toList).1, unqL (cutT 61 s.data.toList).2.1⟩, tokL (upS (cutT 61 s.data.toList).1)) else (⟨upS (cutT 61 s.data.toList).1, (cutT 61 s.data.toList).2.1⟩, tokL (upS (cutT 61 s.data.toList).1) && tokL (cutT 61 s.data.toList).2.1) : Pr × Bool).1.value)], .bool (if g = true then (⟨upS (cutT 61 s.data.toList).1, unqL (cutT 61 s.data.toList).2.1⟩, tokL (upS (cutT 61 s.data.toList).1)) else (⟨upS (cutT 61 s.data.toList).1, (cutT 61 s.data.toList).2.1⟩, tokL (upS (cutT 61 s.data.toList).1) && tokL (cutT 61 s.data.toList).2.1) : Pr × Bool).2] := ⟨_, rfl⟩
  rw [← hV]
  have hVt : g = true → V = .tuple #[.agg #[.string (mkB (upS (cutT 61 s.data.toList).1)), .string (mkB (unqL (cutT 61 s.data.toList).2.1))], .bool (tokL (upS (cutT 61 s.data.toList).1))] := fun h => by rw [hV, h]; rfl
  have hVf : g = false → V = .tuple #[.agg #[.string (mkB (upS (cutT 61 s.data.toList).1)), .string (mkB (cutT 61 s.data.toList).2.1)], .bool (tokL (upS (cutT 61 s.data.toList).1) && tokL (cutT 61 s.data.toList).2.1)] := fun h => by rw [hV, h]; rfl
  clear hV
  generalize tokL (upS (cutT 61 s.data.toList).1) = p at *
  generalize tokL (cutT 61 s.data.toList).2.1 = t at *
  generalize mkB (upS (cutT 61 s.data.toList).1) = A at *
  generalize mkB (unqL (cutT 61 s.data.toList).2.1) = U at *
  generalize mkB (cutT 61 s.data.toList).1 = a at *
  generalize mkB (cutT 61 s.data.toList).2.1 = B at *
  generalize mkB (Lib.cut s.data.toList [61]).1 = c at *
  generalize mkB (Lib.cut s.data.toList [61]).2.1 = d at *
  generalize (Lib.cut s.data.toList [61]).2.2 = r at *
  have B0 := Lib.hid W0
  have VT := Lib.hid hVt
  have VF := Lib.hid hVf
  clear hl hcl hct hu1 hm W0 hs hVt hVf
  go_enter Tryd.func23, Tryd.ntmps23
  go_wp2_with fail
  obtain ⟨w0, hw0⟩ : ∃ x, w.alloc (.cells #[.string ⟨#[]⟩, .string ⟨#[]⟩] 45) = x := ⟨_, rfl⟩
  rw [hw0] at CU N0 B0 ⊢
  clear hw0
  refine CU.out.mono ?_
  rintro e w1 ⟨rfl, n1, rfl⟩
  have B1 : Hid (Below w0.heap.size w0 (w0.drewN n1)) := Lib.hid ⟨rfl, rfl, rfl, Nat.le_refl _, fun _ _ => rfl⟩
  clear CU
  go_wp2_with fail
  refine (T1.out _).mono ?_
  rintro e w2 ⟨rfl, hB2⟩
  have B2 := Lib.hid (B1.out.trans (hB2.mono B1.out.size))
  clear hB2
  go_wp2_with fail
  refine (U1.out _).mono ?_
  rintro e w3 ⟨rfl, hB3⟩
  have B3 := Lib.hid (B2.out.trans (hB3.mono B2.out.size))
  clear hB3
  go_wp2_with fail
  refine (T2.out _).mono ?_
  rintro e w4 ⟨rfl, hB4⟩
  have B4 := Lib.hid (B3.out.trans (hB4.mono B3.out.size))
  clear hB4
  have N4 := Lib.hid ((B4.out.block _ (Array.getElem?_eq_some_iff.1 N0.out).1).trans N0.out)
  have M5 := Lib.hid (alloc_new w4 #[.string A, .string B] 45)
  have C5 : Below w4.heap.size w4 (w4.alloc (.cells #[.string A, .string B] 45)) := (Below.refl _ _).alloc (Nat.le_refl _) _
  have N5 := Lib.hid ((C5.block _ (Array.getElem?_eq_some_iff.1 N4.out).1).trans N4.out)
  have B5 := Lib.hid (B0.out.trans ((B4.out.trans (C5.mono B4.out.size)).mono B0.out.size))
  clear C5 T1 T2 U1 B1 B2 B3
  have hne : w4.heap.size ≠ w.heap.size := by
    have h1 := (Array.getElem?_eq_some_iff.1 N4.out).1
    omega
  have hne2 : w.heap.size ≠ w4.heap.size := fun e => hne e.symm
  dsimp only
  go_wp2_with fail
  obtain ⟨w5, hw5⟩ : ∃ x, w4.alloc (.cells #[.string A, .string B] 45) = x := ⟨_, rfl⟩
  rw [hw5] at M5 N5 B5 ⊢
  clear hw5
  obtain ⟨_, _⟩ := cell_of_two M5.out
  obtain ⟨_, _⟩ := free_two7 M5.out
  refine (IQ.out _).mono ?_
  rintro e w6 ⟨rfl, hw6⟩
  rw [hw6]
  clear hw6 w6
  cases g with
  | true =>
    have HV := Lib.hid (VT.out rfl)
    clear VT VF
    go_wp2_with fail
    refine (UQ.out _).mono ?_
    rintro e w7' ⟨rfl, hB7⟩
    have N7 := Lib.hid ((hB7.block _ (Array.getElem?_eq_some_iff.1 N5.out).1).trans N5.out)
    have M6 := Lib.hid ((hB7.block _ (Array.getElem?_eq_some_iff.1 M5.out).1).trans M5.out)
    have B6 := Lib.hid (B5.out.trans (hB7.mono B5.out.size))
    obtain ⟨_, _⟩ := cell_of_two M6.out
    obtain ⟨_, _⟩ := free_two7 M6.out
    clear hB7
    go_wp2_with fail
    have M7' : (w7'.setCell ⟨w4.heap.size, 1, none⟩ (.string U)).heap[w4.heap.size]? = some (.cells #[.string A, .string U] 45 (0, 0)) := by
      have := heap_setCell_same w7' w4.heap.size 1 #[.string A, .string B] 45 (.string U) M6.out
      simpa using this
    have N7' : (w7'.setCell ⟨w4.heap.size, 1, none⟩ (.string U)).heap[w.heap.size]? = _ := (heap_setCell_other _ _ _ _ hne2).trans N7.out
    have B7' := B6.out.setCell (p := ⟨w4.heap.size, 1, none⟩) (by show w.heap.size ≤ w4.heap.size; have := (Array.getElem?_eq_some_iff.1 N4.out).1; omega) (.string U)
    obtain ⟨w7, hw7⟩ : ∃ x, w7'.setCell ⟨w4.heap.size, 1, none⟩ (.string U) = x := ⟨_, rfl⟩
    rw [hw7] at M7' N7' B7' ⊢
    clear hw7 M6 N7 B6
    have M7 := Lib.hid M7'
    have N7 := Lib.hid N7'
    have B7 := Lib.hid B7'
    clear M7' N7' B7'
    obtain ⟨_, _⟩ := cell_of_two M7.out
    obtain ⟨_, _⟩ := free_two7 N7.out
    obtain ⟨_, _⟩ := cell_of_two N7.out
    refine wp_region_noPanic (wp_region_held_drew (S := fun w' => w'.cell? ⟨w4.heap.size, 0, none⟩ = some (.string A) ∧ w'.cell? ⟨w4.heap.size, 1, none⟩ = some (.string U)) (by kernel_rfl) ⟨by assumption, by assumption⟩ (fun hHeld => ?_))
    refine take_on (i := 0) (some 27) ?_ rfl rfl (by kernel_rfl) (by kernel_rfl) (by kernel_rfl) (fun _ _ _ h => h) (by rfl) (by assumption) ?_ ?_
    rotate_left 2
    · intro wx hSx
      (try dsimp only at hSx)
      (try obtain ⟨_, _⟩ := hSx)
      go_simp
      try with_reducible rfl
    rotate_left
    simp only [Act.put, List.setIfInBounds_toArray, List.set_cons_zero, List.set_cons_succ]
    refine take_on (i := 1) (some 28) ?_ rfl rfl (by kernel_rfl) (by kernel_rfl) (by kernel_rfl) (fun _ _ _ h => h) (by rfl) (by assumption) ?_ ?_
    rotate_left 2
    · intro wx hSx
      (try dsimp only at hSx)
      (try obtain ⟨_, _⟩ := hSx)
      go_simp
      try with_reducible rfl
    rotate_left
    simp only [Act.put, List.setIfInBounds_toArray, List.set_cons_zero, List.set_cons_succ]
    refine take_on (i := 2) (some 29) ?_ rfl rfl (by kernel_rfl) (by kernel_rfl) (by kernel_rfl) (fun _ _ _ h => h) (by rfl) (by assumption) ?_ ?_
    rotate_left 2
    · intro wx hSx
      (try dsimp only at hSx)
      (try obtain ⟨_, _⟩ := hSx)
      go_simp
      try with_reducible rfl
    rotate_left
    simp only [Act.put, List.setIfInBounds_toArray, List.set_cons_zero, List.set_cons_succ]
    refine wpAnyH_ready (rs := [3]) (by kernel_rfl) (by simp) (AllReadyH.cons rfl (fun K hK => ?_) AllReadyH.nil)
    rw [if_pos (by rfl)]
    go_simp
    refine (K1.out _).mono ?_
    rintro e w7 ⟨rfl, rfl⟩
    refine hK.out _ _ hHeld (fun _ => ?_)
    clear hK
    refine wpAnyH_ready (rs := [4]) (by kernel_rfl) (by simp) (AllReadyH.cons rfl (fun K hK => ?_) AllReadyH.nil)
    rw [if_pos (by rfl)]
    go_simp
    have hM : ((w7.drew.setCell ⟨w.heap.size, 0, none⟩ (.string A)).setCell ⟨w.heap.size, 1, none⟩ (.string U)).heap[w4.heap.size]? = _ := ((heap_setCell_other _ _ _ _ hne).trans ((heap_setCell_other _ _ _ _ hne).trans M7.out))
    refine hK.out _ _ (cell_of_two hM) (fun _ => ?_)
    clear hK hM
    refine take_on (i := 5) (some 3) ?_ rfl rfl (by kernel_rfl) (by kernel_rfl) (by kernel_rfl) (fun _ _ _ h => h) (by rfl) (by assumption) ?_ ?_
    rotate_left 2
    · intro wx hSx
      (try dsimp only at hSx)
      (try obtain ⟨_, _⟩ := hSx)
      go_simp
      try with_reducible rfl
    rotate_left
    simp only [Act.put, List.setIfInBounds_toArray, List.set_cons_zero, List.set_cons_succ]
    refine wpAnyH_done (by kernel_rfl) ?_ _
    refine NoPanic.normal ?_
    go_wp2_with fail
    have hq := cell_of_two (w := ((w7.setCell ⟨w.heap.size, 0, none⟩ (.string A)).setCell ⟨w.heap.size, 1, none⟩ (.string U)).drew) (set_two7 (W := w7) N7.out (.string A) (.string U))
    refine bodyPost_ret (v := .tuple #[.agg #[.string A, .string U], .bool p]) (by simp [results, Tryd.results23, go_sem, hq.1, hq.2]) rfl ⟨by rw [HV.out], ?_⟩
    exact (below_two7 B7.out (Nat.le_refl _) _ _).drew
  | false =>
    have HV := Lib.hid (VF.out rfl)
    clear VT VF
    obtain ⟨_, _⟩ := free_two7 N5.out
    obtain ⟨_, _⟩ := cell_of_two N5.out
    go_wp2_with fail
    cases p with
    | false =>
      refine wp_region_noPanic (wp_region_held_drew (S := fun w' => w'.cell? ⟨w4.heap.size, 0, none⟩ = some (.string A) ∧ w'.cell? ⟨w4.heap.size, 1, none⟩ = some (.string B)) (by kernel_rfl) ⟨by assumption, by assumption⟩ (fun hHeld => ?_))
      refine take_on (i := 0) (some 31) ?_ rfl rfl (by kernel_rfl) (by kernel_rfl) (by kernel_rfl) (fun _ _ _ h => h) (by rfl) (by assumption) ?_ ?_
      rotate_left 2
      · intro wx hSx
        (try dsimp only at hSx)
        (try obtain ⟨_, _⟩ := hSx)
        go_simp
        try with_reducible rfl
      rotate_left
      simp only [Act.put, List.setIfInBounds_toArray, List.set_cons_zero, List.set_cons_succ]
      refine take_on (i := 1) (some 32) ?_ rfl rfl (by kernel_rfl) (by kernel_rfl) (by kernel_rfl) (fun _ _ _ h => h) (by rfl) (by assumption) ?_ ?_
      rotate_left 2
      · intro wx hSx
        (try dsimp only at hSx)
        (try obtain ⟨_, _⟩ := hSx)
        go_simp
        try with_reducible rfl
      rotate_left
      simp only [Act.put, List.setIfInBounds_toArray, List.set_cons_zero, List.set_cons_succ]
      refine take_on (i := 2) (some 33) ?_ rfl rfl (by kernel_rfl) (by kernel_rfl) (by kernel_rfl) (fun _ _ _ h => h) (by rfl) (by assumption) ?_ ?_
      rotate_left 2
      · intro wx hSx
        (try dsimp only at hSx)
        (try obtain ⟨_, _⟩ := hSx)
        go_simp
        try with_reducible rfl
      rotate_left
      simp only [Act.put, List.setIfInBounds_toArray, List.set_cons_zero, List.set_cons_succ]
      refine wpAnyH_ready (rs := [3]) (by kernel_rfl) (by simp) (AllReadyH.cons rfl (fun K hK => ?_) AllReadyH.nil)
      rw [if_pos (by rfl)]
      go_simp
      refine (K1.out _).mono ?_
      rintro e w7 ⟨rfl, rfl⟩
      refine hK.out _ _ hHeld (fun _ => ?_)
      clear hK
      refine take_on (i := 4) (some 35) ?_ rfl rfl (by kernel_rfl) (by kernel_rfl) (by kernel_rfl) (fun _ _ _ h => h) (by rfl) (by assumption) ?_ ?_
      rotate_left 2
      · intro wx hSx
        (try dsimp only at hSx)
        (try obtain ⟨_, _⟩ := hSx)
        go_simp
        try with_reducible rfl
      rotate_left
      simp only [Act.put, List.setIfInBounds_toArray, List.set_cons_zero, List.set_cons_succ]
      refine take_off (i := 5) (some 36) rfl rfl (by kernel_rfl) (by kernel_rfl) (by kernel_rfl) (fun _ _ _ h => h) (by rfl) (by assumption) ?_
      simp only [Act.put, List.setIfInBounds_toArray, List.set_cons_zero, List.set_cons_succ]
      refine take_off (i := 6) (some 37) rfl rfl (by kernel_rfl) (by kernel_rfl) (by kernel_rfl) (fun _ _ _ h => h) (by rfl) (by assumption) ?_
      simp only [Act.put, List.setIfInBounds_toArray, List.set_cons_zero, List.set_cons_succ]
      refine take_off (i := 7) (some 38) rfl rfl (by kernel_rfl) (by kernel_rfl) (by kernel_rfl) (fun _ _ _ h => h) (by rfl) (by assumption) ?_
      simp only [Act.put, List.setIfInBounds_toArray, List.set_cons_zero, List.set_cons_succ]
      refine take_on (i := 8) (some 39) ?_ rfl rfl (by kernel_rfl) (by kernel_rfl) (by kernel_rfl) (fun _ _ _ h => h) (by rfl) (by assumption) ?_ ?_
      rotate_left 2
      · intro wx hSx
        (try dsimp only at hSx)
        (try obtain ⟨_, _⟩ := hSx)
        go_simp
        try with_reducible rfl
      rotate_left
      simp only [Act.put, List.setIfInBounds_toArray, List.set_cons_zero, List.set_cons_succ]
      refine wpAnyH_ready (rs := [9]) (by kernel_rfl) (by simp) (AllReadyH.cons rfl (fun K hK => ?_) AllReadyH.nil)
      rw [if_pos (by rfl)]
      go_simp
      have hM : ((w5.drew.setCell ⟨w.heap.size, 0, none⟩ (.string A)).setCell ⟨w.heap.size, 1, none⟩ (.string B)).heap[w4.heap.size]? = _ := ((heap_setCell_other _ _ _ _ hne).trans ((heap_setCell_other _ _ _ _ hne).trans M5.out))
      refine hK.out _ _ (cell_of_two hM) (fun _ => ?_)
      clear hK hM
      refine take_on (i := 10) (some 3) ?_ rfl rfl (by kernel_rfl) (by kernel_rfl) (by kernel_rfl) (fun _ _ _ h => h) (by rfl) (by assumption) ?_ ?_
      rotate_left 2
      · intro wx hSx
        (try dsimp only at hSx)
        (try obtain ⟨_, _⟩ := hSx)
        go_simp
        try with_reducible rfl
      rotate_left
      simp only [Act.put, List.setIfInBounds_toArray, List.set_cons_zero, List.set_cons_succ]
      refine wpAnyH_done (by kernel_rfl) ?_ _
      refine NoPanic.normal ?_
      go_wp2_with fail
      have hq := cell_of_two (w := ((w5.setCell ⟨w.heap.size, 0, none⟩ (.string A)).setCell ⟨w.heap.size, 1, none⟩ (.string B)).drew) (set_two7 (W := w5) N5.out (.string A) (.string B))
      refine bodyPost_ret (v := .tuple #[.agg #[.string A, .string B], .bool false]) (by simp [results, Tryd.results23, go_sem, hq.1, hq.2]) rfl ⟨by rw [HV.out]; rfl, ?_⟩
      exact (below_two7 B5.out (Nat.le_refl _) _ _).drew
    | true =>
      refine wp_region_noPanic (wp_region_held_drew (S := fun w' => w'.cell? ⟨w4.heap.size, 0, none⟩ = some (.string A) ∧ w'.cell? ⟨w4.heap.size, 1, none⟩ = some (.string B)) (by kernel_rfl) ⟨by assumption, by assumption⟩ (fun hHeld => ?_))
      refine take_on (i := 0) (some 31) ?_ rfl rfl (by kernel_rfl) (by kernel_rfl) (by kernel_rfl) (fun _ _ _ h => h) (by rfl) (by assumption) ?_ ?_
      rotate_left 2
      · intro wx hSx
        (try dsimp only at hSx)
        (try obtain ⟨_, _⟩ := hSx)
        go_simp
        try with_reducible rfl
      rotate_left
      simp only [Act.put, List.setIfInBounds_toArray, List.set_cons_zero, List.set_cons_succ]
      refine take_on (i := 1) (some 32) ?_ rfl rfl (by kernel_rfl) (by kernel_rfl) (by kernel_rfl) (fun _ _ _ h => h) (by rfl) (by assumption) ?_ ?_
      rotate_left 2
      · intro wx hSx
        (try dsimp only at hSx)
        (try obtain ⟨_, _⟩ := hSx)
        go_simp
        try with_reducible rfl
      rotate_left
      simp only [Act.put, List.setIfInBounds_toArray, List.set_cons_zero, List.set_cons_succ]
      refine take_on (i := 2) (some 33) ?_ rfl rfl (by kernel_rfl) (by kernel_rfl) (by kernel_rfl) (fun _ _ _ h => h) (by rfl) (by assumption) ?_ ?_
      rotate_left 2
      · intro wx hSx
        (try dsimp only at hSx)
        (try obtain ⟨_, _⟩ := hSx)
        go_simp
        try with_reducible rfl
      rotate_left
      simp only [Act.put, List.setIfInBounds_toArray, List.set_cons_zero, List.set_cons_succ]
      refine wpAnyH_ready (rs := [3]) (by kernel_rfl) (by simp) (AllReadyH.cons rfl (fun K hK => ?_) AllReadyH.nil)
      rw [if_pos (by rfl)]
      go_simp
      refine (K1.out _).mono ?_
      rintro e w7 ⟨rfl, rfl⟩
      refine hK.out _ _ hHeld (fun _ => ?_)
      clear hK
      refine take_on (i := 4) (some 35) ?_ rfl rfl (by kernel_rfl) (by kernel_rfl) (by kernel_rfl) (fun _ _ _ h => h) (by rfl) (by assumption) ?_ ?_
      rotate_left 2
      · intro wx hSx
        (try dsimp only at hSx)
        (try obtain ⟨_, _⟩ := hSx)
        go_simp
        try with_reducible rfl
      rotate_left
      simp only [Act.put, List.setIfInBounds_toArray, List.set_cons_zero, List.set_cons_succ]
      refine take_on (i := 5) (some 36) ?_ rfl rfl (by kernel_rfl) (by kernel_rfl) (by kernel_rfl) (fun _ _ _ h => h) (by rfl) (by assumption) ?_ ?_
      rotate_left 2
      · intro wx hSx
        (try dsimp only at hSx)
        (try obtain ⟨_, _⟩ := hSx)
        go_simp
        try with_reducible rfl
      rotate_left
      simp only [Act.put, List.setIfInBounds_toArray, List.set_cons_zero, List.set_cons_succ]
      refine take_on (i := 6) (some 37) ?_ rfl rfl (by kernel_rfl) (by kernel_rfl) (by kernel_rfl) (fun _ _ _ h => h) (by rfl) (by assumption) ?_ ?_
      rotate_left 2
      · intro wx hSx
        (try dsimp only at hSx)
        (try obtain ⟨_, _⟩ := hSx)
        go_simp
        try with_reducible rfl
      rotate_left
      simp only [Act.put, List.setIfInBounds_toArray, List.set_cons_zero, List.set_cons_succ]
      refine wpAnyH_ready (rs := [7]) (by kernel_rfl) (by simp) (AllReadyH.cons rfl (fun K hK => ?_) AllReadyH.nil)
      rw [if_pos (by rfl)]
      go_simp
      refine (K2.out _).mono ?_
      rintro e w7 ⟨rfl, rfl⟩
      refine hK.out _ _ hHeld (fun _ => ?_)
      clear hK
      refine take_on (i := 8) (some 39) ?_ rfl rfl (by kernel_rfl) (by kernel_rfl) (by kernel_rfl) (fun _ _ _ h => h) (by rfl) (by assumption) ?_ ?_
      rotate_left 2
      · intro wx hSx
        (try dsimp only at hSx)
        (try obtain ⟨_, _⟩ := hSx)
        go_simp
        try with_reducible rfl
      rotate_left
      simp only [Act.put, List.setIfInBounds_toArray, List.set_cons_zero, List.set_cons_succ]
      refine wpAnyH_ready (rs := [9]) (by kernel_rfl) (by simp) (AllReadyH.cons rfl (fun K hK => ?_) AllReadyH.nil)
      rw [if_pos (by rfl)]
      go_simp
      have hM : ((w5.drew.setCell ⟨w.heap.size, 0, none⟩ (.string A)).setCell ⟨w.heap.size, 1, none⟩ (.string B)).heap[w4.heap.size]? = _ := ((heap_setCell_other _ _ _ _ hne).trans ((heap_setCell_other _ _ _ _ hne).trans M5.out))
      refine hK.out _ _ (cell_of_two hM) (fun _ => ?_)
      clear hK hM
      refine take_on (i := 10) (some 3) ?_ rfl rfl (by kernel_rfl) (by kernel_rfl) (by kernel_rfl) (fun _ _ _ h => h) (by rfl) (by assumption) ?_ ?_
      rotate_left 2
      · intro wx hSx
        (try dsimp only at hSx)
        (try obtain ⟨_, _⟩ := hSx)
        go_simp
        try with_reducible rfl
      rotate_left
      simp only [Act.put, List.setIfInBounds_toArray, List.set_cons_zero, List.set_cons_succ]
      refine wpAnyH_done (by kernel_rfl) ?_ _
      refine NoPanic.normal ?_
      go_wp2_with fail
      have hq := cell_of_two (w := ((w5.setCell ⟨w.heap.size, 0, none⟩ (.string A)).setCell ⟨w.heap.size, 1, none⟩ (.string B)).drew) (set_two7 (W := w5) N5.out (.string A) (.string B))
      refine bodyPost_ret (v := .tuple #[.agg #[.string A, .string B], .bool t]) (by simp [results, Tryd.results23, go_sem, hq.1, hq.2]) rfl ⟨by rw [HV.out]; simp, ?_⟩
      exact (below_two7 B5.out (Nat.le_refl _) _ _).drew
end Go.Proofs.YtjleadlecdcdeaaDoor

/-
  The iterator of impl.pieces: it hands on the parts of a text between the occurrences of a mark, one by one.
-/
namespace Go.Proofs.YtjleadlecdcdeaaDoor
set_option linter.unusedVariables false
open Go.RowKit Go.Shelf
attribute [local go_sem] Oper.semAt_some

/-- The parts of r between occurrences of m. -/
inductive Pcs (m : ByteArray) : ByteArray → List ByteArray → Prop
  | last (r : ByteArray) (h : Lib.index r.data.toList m.data.toList < 0) : Pcs m r [r]
  | more (r : ByteArray) (i : Nat) (ps : List ByteArray) (h : Lib.index r.data.toList m.data.toList = (i : Int)) (hi : i + m.size ≤ r.size) (t : Pcs m (r.extract (i + m.size) r.size) ps) : Pcs m r (r.extract 0 i :: ps)

theorem index_facts (r m : ByteArray) (i : Nat) (h : Lib.index r.data.toList m.data.toList = (i : Int)) :
    i ≤ r.size ∧ Lib.occAt r.data.toList m.data.toList i = true ∧ ∀ j, j < i → Lib.occAt r.data.toList m.data.toList j = false := by
  rcases Lib.index_spec r.data.toList m.data.toList with ⟨h1, _⟩ | ⟨k, h1, h2, h3, h4⟩
  · omega
  · obtain rfl : k = i := by omega
    exact ⟨by simpa using h2, h3, h4⟩
theorem index_neg (r m : ByteArray) (h : Lib.index r.data.toList m.data.toList < 0) (j : Nat) (hj : j ≤ r.size) : Lib.occAt r.data.toList m.data.toList j = false := by
  rcases Lib.index_spec r.data.toList m.data.toList with ⟨_, h2⟩ | ⟨k, h1, _, _, _⟩
  · exact h2 j (by simpa using hj)
  · omega
theorem index_room (r m : ByteArray) (i : Nat) (h : Lib.index r.data.toList m.data.toList = (i : Int)) : i + m.size ≤ r.size := by
  have h1 := Lib.index_room r.data.toList m.data.toList (by omega)
  rw [h] at h1
  simp at h1
  omega

theorem Pcs.pos {m r : ByteArray} {ps : List ByteArray} (h : Pcs m r ps) : 0 < ps.length := by
  cases h <;> simp

/-- Two blocks stay as they are. -/
def Keep2 (a b : Nat) (W W' : World) : Prop := W'.heap[a]? = W.heap[a]? ∧ W'.heap[b]? = W.heap[b]?
theorem Keep2.trans {a b : Nat} {A B C : World} (h : Keep2 a b A B) (k : Keep2 a b B C) : Keep2 a b A C := ⟨k.1.trans h.1, k.2.trans h.2⟩
theorem Keep2.of_below {a b B : Nat} {W W' : World} (h : Below B W W') (ha : a < B) (hb : b < B) : Keep2 a b W W' := ⟨h.block a ha, h.block b hb⟩
theorem Keep2.putObj {a b n : Nat} (ha : a < n) (hb : b < n) (W : World) (l : Nat) (o o' : Obj) (hl : n ≤ l) (_ : W.heap[l]? = some o) (_ : o.isCells = false) (_ : o.isWalk = false) : Keep2 a b W (W.putObj l o') :=
  ⟨World.putObj_heap_other (by omega), World.putObj_heap_other (by omega)⟩
theorem cell_of_heap {W W' : World} {a : Nat} (h : W'.heap[a]? = W.heap[a]?) (j : Nat) : W'.cell? ⟨a, j, none⟩ = W.cell? ⟨a, j, none⟩ := by
  simp only [World.cell?, h]
theorem MaxLenAt.keep {b : Nat} {W W' : World} (h : MaxLenAt W) (k : Keep2 0 b W W') : MaxLenAt W' := by
  obtain ⟨m, hm⟩ := h
  exact ⟨m, (cell_of_heap k.1 0).trans hm⟩

set_option maxRecDepth 100000 in
set_option maxHeartbeats 1000000 in
theorem pieces1_in (n : Nat) (hn : 1 ≤ n) (l Bs Bm : Nat) (m s : ByteArray) (full : List ByteArray) (hps : Pcs m s full) (J Jx : List ByteArray → World → Prop)
    (hs : s.size < 4294967281) (hm1 : 1 ≤ m.size)
    (hY : ∀ pre x W, J pre W → pre ++ [x] <+: full → YieldAt Fence.wide (n - 1) Tryd.prog l #[.string x] W fun e W' =>
      (e = .returned (.bool true) ∧ J (pre ++ [x]) W' ∧ Keep2 0 Bm W W') ∨ (e = .returned (.bool false) ∧ Jx (pre ++ [x]) W'))
    (W : World) (hcs : W.cell? ⟨Bs, 0, none⟩ = some (.string s)) (hcm : W.cell? ⟨Bm, 0, none⟩ = some (.string m)) (hML : MaxLenAt W) (h0 : J [] W) :
    CallsIn Fence.wide n Tryd.prog 50 #[.func (.yield l) #[] #[], .pointer (some ⟨Bs, 0, none⟩), .pointer (some ⟨Bm, 0, none⟩)] W fun e W' => (∃ v, e = .returned v) ∧
      ((∃ ys, ys = full ∧ J ys W') ∨ (∃ pre, pre <+: full ∧ Jx pre W')) := by
  have HML := Lib.hid hML
  clear hML
  refine callsIn_of_wp Tryd.func50 rfl trivial ?_ rfl
  simp only [Tryd.ntmps50, List.size_toArray, List.length_cons, List.length_nil, Nat.reduceAdd, Nat.reduceSub, Array.replicate_succ, Array.replicate_zero, List.push_toArray, List.append_toArray, List.nil_append, List.cons_append]
  gi_wp2_with (refine ⟨trivial, ?_⟩; gi_at_call 51; refine (callsIn_wide.2 (implFind_any _ _ _ HML.out hs)).mono ?_; rintro e w' ⟨rfl, rfl⟩)
  gi_loopw [4, 5] (fun r i wr => ∃ (pre ps : List ByteArray) (q : ByteArray), r = .string q ∧ i = .int .i64 (Lib.index q.data.toList m.data.toList) ∧ Hid (full = pre ++ ps) ∧ Hid (Pcs m q ps) ∧ q.size < 4294967281 ∧ J pre wr ∧ wr.cell? ⟨Bm, 0, none⟩ = some (.string m) ∧ Hid (MaxLenAt wr))
    (fun r _ _ => match r with | .string q => q.size | _ => 0)
  case atStart =>
    exact ⟨[], full, s, rfl, rfl, Lib.hid rfl, Lib.hid hps, hs, h0, hcm, HML⟩
  case round =>
    obtain ⟨pre, ps, q, rfl, rfl, hx, hp, hq, hJs, hcm1, hML1⟩ := hrel
    rcases hp.out with ⟨r, hneg⟩ | ⟨r, i, ps', hi, hroom, ht⟩
    · obtain ⟨fn, tmps, assign, body, hy, hR⟩ := hY pre q wr hJs (by rw [hx.out]; exact List.prefix_refl _)
      generalize hix : Lib.index q.data.toList m.data.toList = ix at *
      gi_wp2
      refine hR.mono ?_
      rintro e W3 (⟨rfl, hJ3, hk3⟩ | ⟨rfl, hJx3⟩)
      · gi_wp2
        go_end0
        exact ⟨⟨_, rfl⟩, .inl ⟨_, hx.out.symm, hJ3⟩⟩
      · gi_wp2
        go_end0
        exact ⟨⟨_, rfl⟩, .inr ⟨_, by rw [hx.out]; exact List.prefix_refl _, hJx3⟩⟩
    · obtain ⟨fn, tmps, assign, body, hy, hR⟩ := hY pre (q.extract 0 i) wr hJs (by rw [hx.out]; exact ⟨ps', by simp⟩)
      rw [hi]
      have Hi := Lib.hid hi
      clear hi
      have hext : (q.extract (i + m.size) q.size).size ≤ q.size - (i + m.size) := by simp
      have HEXT := Lib.hid hext
      clear hext
      gi_wp2
      refine hR.mono ?_
      rintro e W3 (⟨rfl, hJ3, hk3⟩ | ⟨rfl, hJx3⟩)
      · have hcm3 : W3.cell? ⟨Bm, 0, none⟩ = some (.string m) := (cell_of_heap hk3.2 0).trans hcm1
        have HML3 := Lib.hid (hML1.out.keep hk3)
        gi_wp2_with (refine ⟨trivial, ?_⟩; gi_at_call 51; refine (callsIn_wide.2 (implFind_any _ _ _ HML3.out (by have := HEXT.out; omega))).mono ?_; rintro e w' ⟨rfl, rfl⟩)
        go_roundw
        case rel => exact ⟨pre ++ [q.extract 0 i], ps', _, rfl, by rw [Lib.extract_data], Lib.hid (by rw [hx.out]; simp), Lib.hid ht, by have := HEXT.out; omega, hJ3, hcm3, HML3⟩
        case measure => have := HEXT.out; simp; omega
      · gi_wp2
        refine bodyPost_ret (results_none rfl _ _ _) rfl ?_
        exact ⟨⟨_, rfl⟩, .inr ⟨pre ++ [q.extract 0 i], ⟨ps', by rw [hx.out]; simp⟩, hJx3⟩⟩

set_option maxHeartbeats 400000 in
/-- The iterator's value: its two arguments boxed. -/
theorem pieces_in (n : Nat) (s m : ByteArray) (w : World) :
    CallsIn Fence.wide n Tryd.prog 37 #[.string s, .string m] w fun e w' =>
      e = .returned (.func (.func 50) #[] #[.pointer (some ⟨w.heap.size, 0, none⟩), .pointer (some ⟨w.heap.size + 1, 0, none⟩)]) ∧
      w' = (w.alloc (.cells #[.string s] 9)).alloc (.cells #[.string m] 9) := by
  refine callsIn_of_wp Tryd.func37 rfl trivial ?_ rfl
  simp only [Tryd.ntmps37, List.size_toArray, List.length_cons, List.length_nil, Nat.reduceAdd, Nat.reduceSub, Array.replicate_succ, Array.replicate_zero, List.push_toArray, List.append_toArray, List.nil_append, List.cons_append]
  gi_wp2
  go_ret
  exact ⟨rfl, rfl⟩

theorem pieces_stops (n : Nat) (hn : 1 ≤ n) (Bs Bm : Nat) (m s : ByteArray) (full : List ByteArray) (hps : Pcs m s full) (hs : s.size < 4294967281) (hm1 : 1 ≤ m.size) (w : World)
    (hBs : Bs < w.heap.size) (hBm : Bm < w.heap.size) (hML : MaxLenAt w)
    (hcs : w.cell? ⟨Bs, 0, none⟩ = some (.string s)) (hcm : w.cell? ⟨Bm, 0, none⟩ = some (.string m)) :
    SeqStopsK Fence.wide n Tryd.prog 50 #[.pointer (some ⟨Bs, 0, none⟩), .pointer (some ⟨Bm, 0, none⟩)] (fun x : ByteArray => #[Value.string x]) (Keep2 0 Bm) (fun ys => ys = full) (fun pre => pre <+: full) full.length w := fun l J Jx W hW _ _ hY h0 =>
  pieces1_in n hn l Bs Bm m s full hps J Jx hs hm1 (fun pre x W1 h hp => hY pre x W1 h (by have := hp.length_le; simp at this; omega)) W ((hW.cell (p := ⟨Bs, 0, none⟩) hBs).trans hcs) ((hW.cell (p := ⟨Bm, 0, none⟩) hBm).trans hcm) (hML.after hW) h0

/-- Every text has parts. -/
theorem pcs_exists (m : ByteArray) (hm : 1 ≤ m.size) : ∀ (n : Nat) (r : ByteArray), r.size ≤ n → ∃ ps, Pcs m r ps := by
  intro n
  induction n with
  | zero =>
    intro r hr
    rcases Int.lt_or_le (Lib.index r.data.toList m.data.toList) 0 with h | h
    · exact ⟨_, .last r h⟩
    · exfalso
      obtain ⟨i, hi⟩ := Int.eq_ofNat_of_zero_le h
      have := index_room r m i hi
      omega
  | succ n ih =>
    intro r hr
    rcases Int.lt_or_le (Lib.index r.data.toList m.data.toList) 0 with h | h
    · exact ⟨_, .last r h⟩
    · obtain ⟨i, hi⟩ := Int.eq_ofNat_of_zero_le h
      have hroom := index_room r m i hi
      obtain ⟨ps, hp⟩ := ih (r.extract (i + m.size) r.size) (by simp; omega)
      exact ⟨_, .more r i ps hi hroom hp⟩
end Go.Proofs.YtjleadlecdcdeaaDoor

/-
  Plain: the parts of a text between the occurrences of one byte, gathered from left to right.
-/
namespace Go.Proofs.YtjleadlecdcdeaaDoor
set_option linter.unusedVariables false
open Go.RowKit

theorem spF_run {s : ByteArray} {b : UInt8} (a : Nat) : ∀ d, (∀ j, a ≤ j → j < a + d → occB s b j = false) → spF s b (a + d) = spF s b a := by
  intro d
  induction d with
  | zero => intro _; rfl
  | succ d ih =>
    intro h
    rw [← Nat.add_assoc, spF_no (h (a + d) (by omega) (by omega))]
    exact ih (fun j h1 h2 => h j h1 (by omega))
theorem occAt_suffix (s m : ByteArray) (o j : Nat) (ho : o ≤ s.size) : Lib.occAt (s.extract o s.size).data.toList m.data.toList j = Lib.occAt s.data.toList m.data.toList (o + j) := by
  unfold Lib.occAt
  rw [Lib.extract_data, List.drop_take, List.drop_drop]
  congr 1
  rw [List.take_of_length_le (by simp; omega)]

theorem extract_extract (s : ByteArray) (o i j : Nat) (hj : o + j ≤ s.size) : (s.extract o s.size).extract i j = s.extract (o + i) (o + j) := by
  apply ByteArray.ext
  apply Array.ext'
  rw [Lib.extract_data, Lib.extract_data, Lib.extract_data, List.drop_take, List.drop_drop, List.take_take]
  congr 1
  omega

/-- The parts of a suffix, gathered behind what has been gathered ahead of it. -/
theorem pcs_split (s : ByteArray) (b : UInt8) : ∀ (q : ByteArray) (ps : List ByteArray), Pcs (one b) q ps → ∀ o pre, o ≤ s.size → q = s.extract o s.size → spF s b o = (pre, o) →
    splitAll s b = pre ++ ps := by
  intro q ps hp
  induction hp with
  | last r h =>
    intro o pre ho hq hf
    subst hq
    have : spF s b (o + (s.size - o)) = spF s b o := spF_run o (s.size - o) (fun j h1 h2 => by
      have := index_neg _ _ h (j - o) (by simp; omega)
      rw [occAt_suffix s _ o _ ho, show o + (j - o) = j by omega, occAt_one] at this
      exact this)
    rw [show o + (s.size - o) = s.size by omega] at this
    unfold splitAll
    rw [this, hf]
  | more r i ps h hi _ ih =>
    intro o pre ho hq hf
    subst hq
    obtain ⟨h1, h2, h3⟩ := index_facts _ _ _ h
    have hm : (one b).size = 1 := rfl
    have hroom : i + 1 ≤ s.size - o := by
      rw [hm] at hi
      simpa using hi
    have hocc : occB s b (o + i) = true := by rw [occAt_suffix s _ o i ho, occAt_one] at h2; exact h2
    have hrun : spF s b (o + i) = spF s b o := spF_run o i (fun j g1 g2 => by
      have := h3 (j - o) (by omega)
      rw [occAt_suffix s _ o _ ho, show o + (j - o) = j by omega, occAt_one] at this
      exact this)
    have hstep : spF s b (o + i + 1) = (pre ++ [s.extract o (o + i)], o + i + 1) := by
      rw [spF_yes hocc, hrun, hf]
    have hsz : (s.extract o s.size).size = s.size - o := by simp
    rw [ih (o + i + 1) (pre ++ [s.extract o (o + i)]) (by omega) (by
      rw [hm, hsz, extract_extract s o (i + 1) (s.size - o) (by omega)]
      congr 1
      omega) hstep]
    rw [extract_extract s o 0 i (by omega)]
    simp
theorem split_parts (s : ByteArray) (b : UInt8) (full : List ByteArray) (hp : Pcs (one b) s full) : full = splitAll s b := by
  rw [pcs_split s b s full hp 0 [] (Nat.zero_le _) (by apply ByteArray.ext; apply Array.ext'; rw [Lib.extract_data, List.drop_zero, List.take_of_length_le (by simp)]) rfl]
  rfl
end Go.Proofs.YtjleadlecdcdeaaDoor

/-
  A row that lies in a box, appended to inside a range over an iterator.
-/
namespace Go.Proofs.YtjleadlecdcdeaaDoor
set_option linter.unusedVariables false
open Go.RowKit Go.Shelf
attribute [local go_sem] Oper.semAt_some

theorem rowLe {w : World} {base base' : Nat} {e : TypeId} {size : Nat} {v : Value} {n : Nat} {xs : List Value} (h : w.ownsRow base e size v n xs) (hb : base' ≤ base) : w.ownsRow base' e size v n xs := by
  obtain ⟨h1, h2⟩ := h
  refine ⟨h1, h2.imp id ?_⟩
  rintro ⟨g, cap, cur, e1, e2, e3⟩
  exact ⟨g, cap, cur, e1, Nat.le_trans hb e2, e3⟩

/-- A row that lies behind every box: what an append to it, and the store of the new slice into its box, leave. -/
theorem boxApp {W w1 : World} {n₀ n₁ B : Nat} {t e : TypeId} {size : Nat} {v v' : Value} {k m : Nat} {xs ys : List Value} {tmp : Obj}
    (hv : Boxed W B t v) (hte : t ≠ e) (hrow : W.ownsRow n₁ e size v k xs) (h01 : n₀ ≤ n₁) (h0 : n₀ ≤ W.heap.size) (hB : n₀ ≤ B)
    (hown' : w1.ownsRow n₁ e size v' m ys) (hgrow : (W.alloc tmp).grownBy w1 v.ownBlock) :
    Boxed w1 B t v ∧ Boxed (w1.setCell ⟨B, 0, none⟩ v') B t v' ∧ (w1.setCell ⟨B, 0, none⟩ v').ownsRow n₁ e size v' m ys ∧ KeepsOthers W (w1.setCell ⟨B, 0, none⟩ v') ∧ Below n₀ W (w1.setCell ⟨B, 0, none⟩ v') ∧
      ∀ j, j < W.heap.size → j < n₁ → j ≠ B → (w1.setCell ⟨B, 0, none⟩ v').heap[j]? = W.heap[j]? := by
  obtain ⟨h1, h2, h3, h4, h5⟩ := hv.appended hte (rowLe hrow h01) h0 hB (rowLe hown' h01) hgrow
  refine ⟨h1, h2, hown'.kept (grownBy_setCell' w1 B v') (.inr (h1.not_row hte hown').symm), h4, h5, fun j hj hj1 hjB => ?_⟩
  rw [Below.heap_setCell _ _ _ _ hjB, hgrow.block j (by simp; omega) (fun e' => by have := (hrow.lt j e'.symm).1; omega)]
  exact Below.heap_alloc _ _ _ hj

end Go.Proofs.YtjleadlecdcdeaaDoor

/-
  The walk of impl.Split.
-/
namespace Go.Proofs.YtjleadlecdcdeaaDoor
set_option linter.unusedVariables false
open Go.RowKit Go.Shelf
attribute [local go_sem] Oper.semAt_some

set_option maxRecDepth 100000 in
set_option maxHeartbeats 1000000 in
theorem implSplit_in (s : ByteArray) (b : UInt8) (full : List ByteArray) (hps : Pcs (one b) s full) (hs : s.size < 4294967281) (hfull : full.length ≤ 4294967281) (w : World) (hML : MaxLenAt w) :
    CallsIn Fence.wide 4 Tryd.prog 20 #[.string s, .int .u8 b.toNat] w (GivesStrs full w) := by
  have HML := Lib.hid hML
  clear hML
  obtain ⟨i0, hi, hz0, hz1, hz2⟩ := info_parts infoStr
  have hbuf : Buf ((w.alloc (.cells #[.slice none 0 0] 42)).alloc (.cells #[.int .u8 b.toNat] 5)) (w.heap.size + 1) 5 [b] :=
    ⟨_, 0, 0, heap_alloc2_new _ _ _, .inr (Nat.le_refl _), fun j hj => by
      have : j = 0 := by simpa using hj
      subst this; rfl⟩
  have hback := hbuf.back (P := Tryd.prog) 22 9 5 1 1 rfl Tryd.underlying22 Tryd.underlying5 Tryd.underlying9
  clear hbuf
  refine callsIn_of_wp_marks Tryd.func20 rfl trivial ?_ rfl
  simp only [Tryd.ntmps20, List.size_toArray, List.length_cons, List.length_nil, Nat.reduceAdd, Nat.reduceSub, Array.replicate_succ, Array.replicate_zero, List.push_toArray, List.append_toArray, List.nil_append, List.cons_append]
  gi_wp2_with (refine ⟨trivial, ?_⟩; gi_at_call 37; refine (pieces_in _ _ _ _).mono ?_; rintro e w' ⟨rfl, rfl⟩)
  have hlt := HML.out.lt
  have hb0 := (((Boxed.new w 42 (.slice none 0 0)).alloc (.cells #[.int .u8 b.toNat] 5)).alloc (.cells #[.string s] 9)).alloc (.cells #[.string (one b)] 9)
  have hb2 := (Boxed.new ((w.alloc (.cells #[.slice none 0 0] 42)).alloc (.cells #[.int .u8 b.toNat] 5)) 9 (.string s)).alloc (.cells #[.string (one b)] 9)
  have hb3 := Boxed.new (((w.alloc (.cells #[.slice none 0 0] 42)).alloc (.cells #[.int .u8 b.toNat] 5)).alloc (.cells #[.string s] 9)) 9 (.string (one b))
  have hB0 : Below w.heap.size w ((((w.alloc (.cells #[.slice none 0 0] 42)).alloc (.cells #[.int .u8 b.toNat] 5)).alloc (.cells #[.string s] 9)).alloc (.cells #[.string (one b)] 9)) :=
    ((((Below.refl _ w).alloc (Nat.le_refl _) _).alloc (by simp) _).alloc (by simp; omega) _).alloc (by simp; omega) _
  simp only [World.size_alloc] at hb2 hb3
  have hsz : ((((w.alloc (.cells #[.slice none 0 0] 42)).alloc (.cells #[.int .u8 b.toNat] 5)).alloc (.cells #[.string s] 9)).alloc (.cells #[.string (one b)] 9)).heap.size = w.heap.size + 4 := by simp
  clear hback
  change Code.wpIn _ _ _ _ _ _ ((((w.alloc (.cells #[.slice none 0 0] 42)).alloc (.cells #[.int .u8 b.toNat] 5)).alloc (.cells #[.string s] 9)).alloc (.cells #[.string (one b)] 9))
  generalize ((((w.alloc (.cells #[.slice none 0 0] 42)).alloc (.cells #[.int .u8 b.toNat] 5)).alloc (.cells #[.string s] 9)).alloc (.cells #[.string (one b)] 9)) = W0 at *
  refine wpIn_rangeFunc_ownF rfl (by decide) (gf := 50) (lb := #[.pointer (some ⟨w.heap.size + 1 + 1, 0, none⟩), .pointer (some ⟨w.heap.size + 1 + 1 + 1, 0, none⟩)]) rfl trivial (enters_of Tryd.func50 (by kernel_rfl) rfl)
    (pieces_stops 3 (by decide) (w.heap.size + 1 + 1) (w.heap.size + 1 + 1 + 1) (one b) s full hps hs (by show 1 ≤ 1; omega) W0 (by omega) (by omega) (HML.out.after hB0) hb2.cell hb3.cell) Keep2.trans (Keep2.putObj (by omega) (by omega)) (Below.refl _ _) (fun _ => rfl)
    (fun pre W => (∃ v, Boxed W w.heap.size 42 v ∧ W.ownsRow (w.heap.size + 4) 9 1 v pre.length (pre.map Value.string) ∧ True) ∧ Below w.heap.size w W ∧ Below 0 W0 W)
    (fun _ _ _ => False)
    (OwnFrom.and (Own.from (holdsRow_own (w.heap.size + 4) w.heap.size 42 9 1 (fun pre : List ByteArray => pre.length) (fun pre => pre.map Value.string) (fun _ _ => True)) _) (OwnFrom.and (ownFrom_below (Nat.le_refl _) (by omega)) (ownFrom_below (Nat.zero_le _) (Nat.zero_le _))))
    (fun _ _ _ _ _ hs _ _ => hs)
    ⟨⟨_, hb0, World.ownsRow_nil _ _ _ _, trivial⟩, hB0, Below.refl _ _⟩
    (fun x => { tmps := #[.string s, .int .u8 b.toNat, undef, undef, .slice none 0 0, .pointer (some ⟨w.heap.size, 0, none⟩), .string x, .string s, .int .u8 b.toNat, .slice (some ⟨w.heap.size + 1, 0, none⟩) 1 1, .string (one b), .func (.func 50) #[] #[.pointer (some ⟨w.heap.size + 1 + 1, 0, none⟩), .pointer (some ⟨w.heap.size + 1 + 1 + 1, 0, none⟩)], .string x, undef, undef, undef, undef, undef], defers := [] }) ?assign ?body ?done ?stop
  case assign =>
    intro l x W K hK
    gi_wp2
    exact hK
  case body =>
    rintro l pre x W ⟨⟨v, hv, hrow, _⟩, hB, hB'⟩ hpl
    have hc := hv.cell
    have hsW := hB'.size
    gi_wp2_with (gi_at_builtin; refine wpListIn_append_own _ rfl _ _ 42 rfl (w.heap.size + 4) 9 i0 (.string ⟨#[]⟩) 1 16 Tryd.underlying42 hi hz0 hz1 hz2 rfl (by decide) _ _ _ rfl (hrow.alloc _) ⟨W.heap.size, 0, none⟩ 1 1 [.string x] rfl rfl (cell_one_new _ _ _) (by simp [Value.oneCell']) (by unfold maxLen; omega) (by omega) (by simp; omega) ?_; intro v' w1 hown' hgrow _; obtain ⟨g', cap', rfl⟩ := ownsRow_succ hown'; obtain ⟨hv1, hv2, hr2, hk2, hb2', hkeep⟩ := boxApp hv (by decide) hrow (by omega) hB.size (Nat.le_refl _) hown' hgrow; have hc1 := hv1.cell; have hf1 := hv1.frozen)
    refine ⟨hk2, ⟨hb2'.block _ hlt, hkeep _ (by omega) (by omega) (by omega)⟩, ⟨_, hv2, by simpa using hr2, trivial⟩, hB.trans hb2', hB'.trans (hb2'.mono (Nat.zero_le _))⟩
  case done =>
    rintro D ys W hD rfl ⟨⟨v, hv, hrow, _⟩, hB, hB'⟩ hK
    have hc := hv.cell
    gi_wp2
    refine ⟨by simp, .inl ⟨_, _, rfl, run_takeDeferred hK, ?_⟩⟩
    exact ⟨_, results_tmp rfl _ _ _, v, rfl, rowLe (ownsRow_putObj hrow _ hK rfl) (by omega), hB.trans (belowK_b (w := w) (Nat.le_refl _) W D _ _ (by omega) hK rfl rfl)⟩
  case stop =>
    rintro D c pre W _ _ h _
    exact h.elim

theorem implSplit_any (s : ByteArray) (b : UInt8) (w : World) (hs : s.size ≤ 1048576) (hML : MaxLenAt w) :
    Calls Tryd.prog 20 #[.string s, .int .u8 b.toNat] w (GivesStrs (splitAll s b) w) := by
  obtain ⟨full, hp⟩ := pcs_exists (one b) (by show 1 ≤ 1; omega) s.size s (Nat.le_refl _)
  have h1 : full.length ≤ s.size + 1 := by
    rw [split_parts s b full hp]
    unfold splitAll
    have := (spF_le s b s.size).2
    simp; omega
  have h := callsIn_wide.1 (implSplit_in s b full hp (by omega) (by omega) w hML)
  rw [split_parts s b full hp] at h
  exact h
end Go.Proofs.YtjleadlecdcdeaaDoor

/-
  Kinds: the walk of impl's ReadKind.
-/
namespace Go.Proofs.YtjleadlecdcdeaaDoor
set_option linter.unusedVariables false
open Go.RowKit

set_option maxRecDepth 100000 in
set_option maxHeartbeats 4000000 in
theorem implReadKind_any (s : ByteArray) (w : World) (hs : s.size ≤ 1048576) (hM : MaxLenAt w) :
    Calls Tryd.prog 7 #[.string s] w (GivesKd (kindOf s.data.toList) w) := by
  obtain ⟨j0, hj0, hy0, hy1, hy2⟩ := info_parts infoPr
  obtain ⟨O, hO⟩ : ∃ O, kindOf s.data.toList = O := ⟨_, rfl⟩
  rw [hO]
  unfold kindOf semis at hO
  rw [show mkB s.data.toList = s from rfl] at hO
  have HB0 : Hid (Below w.heap.size w (w.alloc (.cells #[.string ⟨#[]⟩, .string ⟨#[]⟩, .slice none 0 0] 27))) := Lib.hid ((Below.refl _ _).alloc (Nat.le_refl _) _)
  have HM := Lib.hid (fun W (h : Below w.heap.size w W) => hM.after h)
  have SP := Lib.hid (implSplit_any s 59 _ hs (HM.out _ HB0.out))
  rw [show (((59 : UInt8).toNat : Nat) : Int) = 59 from rfl] at SP
  have hsm := split_small s 59
  obtain ⟨hsl, hsn⟩ := split_len s 59
  generalize splitAll s 59 = L at hO SP hsm hsl hsn
  obtain ⟨x0, L', rfl⟩ : ∃ x0 L', L = x0 :: L' := by
    cases L with
    | nil => exact absurd rfl hsn
    | cons a r => exact ⟨a, r, rfl⟩
  simp only [List.map_cons] at hO
  have hx0 := hsm x0 (by simp)
  have HSM : Hid (∀ y ∈ L', y.size ≤ 1048576) := Lib.hid (fun y hy => by have := hsm y (by simp [hy]); omega)
  have hll : L'.length ≤ 1048577 := by simp at hsl; omega
  have RT := Lib.hid (fun W (h : Below w.heap.size w W) => readType_any x0 W (by omega) (HM.out _ h))
  have hcond : ((cutT 47 x0.data.toList).2.2 = true ∧ tokL (cutT 47 x0.data.toList).1 = true ∧ tokL (cutT 47 x0.data.toList).2.1 = true) ↔ (tokL (upS (cutT 47 x0.data.toList).1) && tokL (upS (cutT 47 x0.data.toList).2.1)) = true := by
    rw [tokL_up, tokL_up, Bool.and_eq_true]
    refine ⟨fun h => ⟨h.2.1, h.2.2⟩, fun h => ⟨?_, h.1, h.2⟩⟩
    cases hc : (cutT 47 x0.data.toList).2.2 with
    | true => rfl
    | false =>
      have h2 := h.2
      rw [cut_none hc] at h2
      cases h2
  obtain ⟨ok, hok⟩ : ∃ ok, (tokL (upS (cutT 47 x0.data.toList).1) && tokL (upS (cutT 47 x0.data.toList).2.1)) = ok := ⟨_, rfl⟩
  rw [hok] at RT hcond
  generalize hA : upS (cutT 47 x0.data.toList).1 = al at hO RT
  generalize hB : upS (cutT 47 x0.data.toList).2.1 = bl at hO RT
  obtain ⟨U1, hU1⟩ : ∃ U, mkB al = U := ⟨_, rfl⟩
  obtain ⟨U2, hU2⟩ : ∃ U, mkB bl = U := ⟨_, rfl⟩
  rw [hU1, hU2] at RT
  clear hsm hsl hsn hx0 hok hA hB hM
  have H0 := Lib.hid (new_three w (.string ⟨#[]⟩) (.string ⟨#[]⟩) (.slice none 0 0) 27)
  go_enter Tryd.func7, Tryd.ntmps7
  go_wp2_with fail
  refine SP.out.mono ?_
  rintro e w1 ⟨vl, rfl, hl1, hB1⟩
  obtain ⟨gl, cl, rfl⟩ := row_slice1 hl1 (by simp)
  have HL1 := Lib.hid hl1
  have H1 := Lib.hid ((hB1.block _ (heap_lt H0.out)).trans H0.out)
  have B1 := Lib.hid (HB0.out.trans (hB1.mono HB0.out.size))
  have hc0 : w1.cell? ⟨gl, 0, none⟩ = some (.string x0) := by
    have := hl1.cellAt 0 (by simp)
    rw [this]
    rfl
  have hsz : (x0 :: L').length = L'.length + 1 := rfl
  rw [hsz] at HL1 ⊢
  have q1 : (0 : Int) < ((L'.length + 1 : Nat) : Int) := by omega
  clear hB1 hl1 SP
  go_wp2_with fail
  refine (RT.out _ B1.out).mono ?_
  rintro e w2 ⟨rfl, hB2⟩
  have H2 := Lib.hid ((hB2.block _ (heap_lt H1.out)).trans H1.out)
  have B2 := Lib.hid (B1.out.trans (hB2.mono B1.out.size))
  have HL2 := Lib.hid (row_lat HL1.out hB2)
  clear hB2 hc0
  obtain ⟨f0, f1, f2⟩ := three_free H2.out
  obtain ⟨f3, f4, f5⟩ := three_cells H2.out
  cases ok with
  | false =>
    have HF : Hid (O = none) := Lib.hid (by rw [← hO, if_neg (fun h => by have := hcond.1 h; cases this)])
    have HA := Lib.hid ((Below.heap_alloc w2 (.cells #[.string U1, .string U2, .slice none 0 0] 27) _ (heap_lt H2.out)).trans H2.out)
    have BA := Lib.hid (B2.out.alloc B2.out.size (.cells #[.string U1, .string U2, .slice none 0 0] 27))
    obtain ⟨_, _, _⟩ := three_free HA.out
    obtain ⟨_, _, _⟩ := three_cells HA.out
    clear hO hcond f0 f1 f2 f3 f4 f5
    go_wp2_with fail
    have q := three_cells (set_three HA.out (.string ⟨#[]⟩) (.string ⟨#[]⟩) (.slice none 0 0))
    refine bodyPost_ret (v := .tuple #[.agg #[.string ⟨#[]⟩, .string ⟨#[]⟩, .slice none 0 0], .bool false]) (by simp [results, Tryd.results7, go_sem, q.1, q.2.1, q.2.2]) rfl ?_
    rw [HF.out]
    exact ⟨rfl, below_three BA.out (Nat.le_refl _) _ _ _⟩
  | true =>
    rw [if_pos (hcond.2 rfl)] at hO
    obtain ⟨P, hP⟩ : ∃ P, paramsA [] (L'.map (fun b => b.data.toList)) = P := ⟨_, rfl⟩
    rw [hP] at hO
    have HP0 : Hid (paramsA [] ((L'.map (fun b => b.data.toList)).drop 0) = P) := Lib.hid (by rw [List.drop_zero]; exact hP)
    have HO : Hid (P.map (fun l => (⟨al, bl, l⟩ : Kd)) = O) := Lib.hid hO
    have HU1 := Lib.hid hU1
    have HU2 := Lib.hid hU2
    have K0 := Lib.hid (KrW.mk (wA := w2.alloc (.cells #[.string U1, .string U2, .slice none 0 0] 27)) (acc := []) (World.ownsRow_nil _ _ _ _) (new_three w2 (.string U1) (.string U2) (.slice none 0 0) 27) (grownBy_refl _ _))
    have HA := Lib.hid ((Below.heap_alloc w2 (.cells #[.string U1, .string U2, .slice none 0 0] 27) _ (heap_lt H2.out)).trans H2.out)
    have BA := Lib.hid (B2.out.alloc B2.out.size (.cells #[.string U1, .string U2, .slice none 0 0] 27))
    have LA := Lib.hid (HL2.out.alloc (.cells #[.string U1, .string U2, .slice none 0 0] 27))
    have SA : w2.heap.size < (w2.alloc (.cells #[.string U1, .string U2, .slice none 0 0] 27)).heap.size := by simp
    have SG : gl < w2.heap.size := (HL2.out.lt gl rfl).2
    have S0 : w.heap.size < w2.heap.size := heap_lt H2.out
    have hcap : cl = 1 → L'.length = 0 := fun h => by
      rcases HL2.out with ⟨_, ⟨h1, _⟩ | ⟨g, cap, cur, h1, _, _, h2, _⟩⟩
      · cases h1
      · injection h1 with _ _ h3
        omega
    clear hO hcond f0 f1 f2 f3 f4 f5 hP hU1 hU2 H0 H1 H2 B1 B2 HB0 HL1 HL2 RT
    by_cases hcl : cl = 1
    · have hL0 := hcap hcl
      clear hcap
      go_wp2_with fail
      obtain ⟨wA, hwA⟩ : ∃ x, w2.alloc (.cells #[.string U1, .string U2, .slice none 0 0] 27) = x := ⟨_, rfl⟩
      rw [hwA] at K0 HA BA LA SA ⊢
      obtain ⟨kb, hkb⟩ : ∃ kb, w2.heap.size = kb := ⟨_, rfl⟩
      rw [hkb] at K0 SA SG S0 ⊢
      clear hwA hkb
      go_loopw [26] (fun i wr => ∃ (j : Nat) (acc : List Pr) (pv : Value), j ≤ L'.length ∧ i = .int .i64 (j : Int) ∧ Hid (paramsA acc ((L'.map (fun b => b.data.toList)).drop j) = P) ∧ acc.length ≤ j ∧ Hid (KrW wA wr kb U1 U2 pv acc)) (fun i _ => L'.length - (intOf i).toNat)
      case atStart => exact ⟨0, [], .slice none 0 0, Nat.zero_le _, rfl, HP0, by simp, K0⟩
      case round =>
        obtain ⟨j, acc, pv, hj, rfl, HP, hacc, HK⟩ := hrel
        have hszr := HK.out.grown.size
        have HR : Hid (wr.heap[w.heap.size]? = some (.cells #[.string ⟨#[]⟩, .string ⟨#[]⟩, .slice none 0 0] 27 (0, 0))) := Lib.hid ((HK.out.grown.block _ (heap_lt HA.out) (fun e => by have := Option.some.inj e; omega)).trans HA.out)
        have BR : Hid (Below w.heap.size w wr) := Lib.hid (BA.out.grown HK.out.grown BA.out.size (fun k e => by have := Option.some.inj e; omega))
        by_cases hlt : j < L'.length
        · omega
        · have g1 : decide ((j : Int) < (L'.length : Int)) = false := by simp; omega
          have HF : Hid (O = some ⟨al, bl, acc⟩) := Lib.hid (by
            have h := HP.out
            rw [List.drop_eq_nil_of_le (by rw [List.length_map]; omega)] at h
            rw [← HO.out, ← h]
            rfl)
          obtain ⟨_, _, _⟩ := three_free HR.out
          obtain ⟨_, _, _⟩ := three_cells HR.out
          obtain ⟨pp, pc, hpv⟩ := row_slice HK.out.row
          subst hpv
          obtain ⟨_, _, _⟩ := three_cells HK.out.box
          clear HP
          go_wp2_with fail
          have q := three_cells (set_three HR.out (.string U1) (.string U2) (.slice pp acc.length pc))
          refine bodyPost_ret (v := .tuple #[.agg #[.string U1, .string U2, .slice pp acc.length pc], .bool true]) (by simp [results, Tryd.results7, go_sem, q.1, q.2.1, q.2.2]) rfl ?_
          rw [HF.out]
          refine ⟨.slice pp acc.length pc, by rw [← HU1.out, ← HU2.out], ?_, below_three BR.out (Nat.le_refl _) _ _ _⟩
          have hr : ∀ k, (Value.slice pp acc.length pc).ownBlock = some k → k ≠ w.heap.size := fun k e => by have := (HK.out.row.lt k e).1; omega
          refine row_baseL (ownsRow_setCell_other (ownsRow_setCell_other (ownsRow_setCell_other HK.out.row (fun e => hr _ e rfl) _) (fun e => hr _ e rfl) _) (fun e => hr _ e rfl) _) (by omega)
    · clear hcap
      go_wp2_with fail
      obtain ⟨wA, hwA⟩ : ∃ x, w2.alloc (.cells #[.string U1, .string U2, .slice none 0 0] 27) = x := ⟨_, rfl⟩
      rw [hwA] at K0 HA BA LA SA ⊢
      obtain ⟨kb, hkb⟩ : ∃ kb, w2.heap.size = kb := ⟨_, rfl⟩
      rw [hkb] at K0 SA SG S0 ⊢
      clear hwA hkb
      go_loopw [26] (fun i wr => ∃ (j : Nat) (acc : List Pr) (pv : Value), j ≤ L'.length ∧ i = .int .i64 (j : Int) ∧ Hid (paramsA acc ((L'.map (fun b => b.data.toList)).drop j) = P) ∧ acc.length ≤ j ∧ Hid (KrW wA wr kb U1 U2 pv acc)) (fun i _ => L'.length - (intOf i).toNat)
      case atStart => exact ⟨0, [], .slice none 0 0, Nat.zero_le _, rfl, HP0, by simp, K0⟩
      case round =>
        obtain ⟨j, acc, pv, hj, rfl, HP, hacc, HK⟩ := hrel
        have hszr := HK.out.grown.size
        have HR : Hid (wr.heap[w.heap.size]? = some (.cells #[.string ⟨#[]⟩, .string ⟨#[]⟩, .slice none 0 0] 27 (0, 0))) := Lib.hid ((HK.out.grown.block _ (heap_lt HA.out) (fun e => by have := Option.some.inj e; omega)).trans HA.out)
        have BR : Hid (Below w.heap.size w wr) := Lib.hid (BA.out.grown HK.out.grown BA.out.size (fun k e => by have := Option.some.inj e; omega))
        by_cases hlt : j < L'.length
        · have g1 : decide ((j : Int) < (L'.length : Int)) = true := by simp; omega
          have i1 : (0 : Int) ≤ (j : Int) := by omega
          have i2 : (j : Int) < (L'.length : Int) := by omega
          have hlin := LA.out.kept HK.out.grown (.inr (fun e => by simp [Value.ownBlock] at e; omega))
          have hcell : wr.cell? ⟨gl, 1 + j, none⟩ = some (.string L'[j]) := by
            rw [hlin.cellAt (1 + j) (by omega), List.getElem?_map, show 1 + j = j + 1 by omega, List.getElem?_cons_succ, List.getElem?_eq_getElem hlt]
            rfl
          have HP2 := HP.out
          rw [List.drop_eq_getElem_cons (by rw [List.length_map]; exact hlt), paramsA_cons, List.getElem_map] at HP2
          have hxs := HSM.out L'[j] (List.getElem_mem hlt)
          have hgl : gl < wr.heap.size := by omega
          generalize L'[j] = x at hcell HP2 hxs
          have TR := Lib.hid (fun w => implTrim_any x w (by omega))
          have PA := Lib.hid (fun W (h : Below w.heap.size w W) => readParam_any x W hxs (HM.out _ h))
          rw [paramI_eq] at HP2
          obtain ⟨pI, hpI⟩ : ∃ pI, paramI x.data.toList = pI := ⟨_, rfl⟩
          rw [hpI] at HP2 PA
          obtain ⟨p, okp⟩ := pI
          obtain ⟨tx, htx⟩ : ∃ tx, Lib.trimS x.data.toList [32, 9] = tx := ⟨_, rfl⟩
          rw [htx, show (⟨tx.toArray⟩ : ByteArray) = mkB tx from rfl] at TR
          rw [htx] at HP2
          clear htx hlin HP hpI
          by_cases htn : tx = []
          · rw [if_pos htn] at HP2
            have hue : (mkB tx).toList.isEmpty = true := by rw [Lib.toList_data, mkB_list, htn]; rfl
            have hue2 : (mkB tx).toList = [] := by rw [Lib.toList_data, mkB_list, htn]
            have HP3 := Lib.hid HP2
            clear HP2 htn
            go_wp2_with (go_at_call 22; refine (TR.out _).mono ?_; rintro e w' ⟨rfl, hB'⟩)
            have K3 := Lib.hid (HK.out.call hB')
            clear hB'
            go_roundw
            case rel => exact ⟨j + 1, acc, pv, by omega, by go_num, HP3, by omega, K3⟩
            case measure => simp [intOf]; omega
          · rw [if_neg htn] at HP2
            have hue : (mkB tx).toList.isEmpty = false := by
              rw [Lib.toList_data, mkB_list]
              cases tx with
              | nil => exact absurd rfl htn
              | cons a r => rfl
            have hue2 : ¬ (mkB tx).toList = [] := by rw [Lib.toList_data, mkB_list]; exact htn
            clear htn
            go_wp2_with (first | (go_at_call 22; refine (TR.out _).mono ?_; rintro e w4 ⟨rfl, hB4⟩))
            have K4 := Lib.hid (HK.out.call hB4)
            have B4 := Lib.hid (BR.out.trans (hB4.mono BR.out.size))
            have H4 := Lib.hid ((hB4.block _ (heap_lt HR.out)).trans HR.out)
            clear hB4
            refine (PA.out _ B4.out).mono ?_
            rintro e w5 ⟨rfl, hB5⟩
            have K5 := Lib.hid (K4.out.call hB5)
            have H5 := (hB5.block _ (heap_lt H4.out)).trans H4.out
            have B5 := Lib.hid (B4.out.trans (hB5.mono B4.out.size))
            clear hB5
            cases okp with
            | false =>
              rw [if_neg (by simp)] at HP2
              have HF : Hid (O = none) := Lib.hid (by rw [← HO.out, ← HP2]; rfl)
              have HR6 := (Below.heap_alloc w5 (.cells #[.string (mkB p.name), .string (mkB p.value)] 45) _ (heap_lt H5)).trans H5
              have B6 := Lib.hid (B5.out.alloc B5.out.size (.cells #[.string (mkB p.name), .string (mkB p.value)] 45))
              obtain ⟨_, _, _⟩ := three_free HR6
              obtain ⟨_, _, _⟩ := three_cells HR6
              have H6 := Lib.hid HR6
              clear HP2 H5 HR6
              go_wp2_with fail
              have q := three_cells (set_three H6.out (.string ⟨#[]⟩) (.string ⟨#[]⟩) (.slice none 0 0))
              refine bodyPost_ret (v := .tuple #[.agg #[.string ⟨#[]⟩, .string ⟨#[]⟩, .slice none 0 0], .bool false]) (by simp [results, Tryd.results7, go_sem, q.1, q.2.1, q.2.2]) rfl ?_
              rw [HF.out]
              exact ⟨rfl, below_three B6.out (Nat.le_refl _) _ _ _⟩
            | true =>
              rw [if_pos rfl] at HP2
              have HP3 : Hid (paramsA (acc ++ [p]) ((L'.map (fun b => b.data.toList)).drop (j + 1)) = P) := Lib.hid HP2
              have K6 := Lib.hid (K5.out.call ((Below.refl _ _).alloc (Nat.le_refl _) (.cells #[.string (mkB p.name), .string (mkB p.value)] 45)))
              have K7 := Lib.hid (K6.out.call ((Below.refl _ _).alloc (Nat.le_refl _) (.cells #[.string (mkB p.name), .string (mkB p.value)] 45)))
              have HS5 : wA.heap.size ≤ w5.heap.size := K5.out.grown.size
              obtain ⟨_, _, c6⟩ := three_cells K6.out.box
              clear HP2 H5
              go_wp2_with (first | (at_builtin; refine wpList_append_own _ rfl _ _ 25 rfl wA.heap.size 45 j0 (.agg #[.string ⟨#[]⟩, .string ⟨#[]⟩]) 2 32 Tryd.underlying25 hj0 hy0 hy1 hy2 rfl (by decide) _ _ _ rfl K7.out.row ⟨w5.heap.size + 1, 0, none⟩ 1 1 [.string (mkB p.name), .string (mkB p.value)] rfl rfl (cell_two_new _ _ _ _ _ (by simp)) (by simp [Value.oneCell']) (by unfold maxLen; omega) (by omega) (by simp; omega) ?_; intro v' w8 hown' hgrow _; obtain ⟨g', cap', rfl⟩ := ownsRow_succ hown'; obtain ⟨hb8, hk8⟩ := K7.out.store p (by omega) hown' hgrow; obtain ⟨_, _, _⟩ := three_cells hb8; obtain ⟨_, _, _⟩ := three_free hb8))
              have K8 := Lib.hid hk8
              clear hb8 hk8 hown' hgrow
              go_wp2_with fail
              go_roundw
              case rel => exact ⟨j + 1, acc ++ [p], _, by omega, by go_num, HP3, by simp; omega, K8⟩
              case measure => simp [intOf]; omega
        · have g1 : decide ((j : Int) < (L'.length : Int)) = false := by simp; omega
          have HF : Hid (O = some ⟨al, bl, acc⟩) := Lib.hid (by
            have h := HP.out
            rw [List.drop_eq_nil_of_le (by rw [List.length_map]; omega)] at h
            rw [← HO.out, ← h]
            rfl)
          obtain ⟨_, _, _⟩ := three_free HR.out
          obtain ⟨_, _, _⟩ := three_cells HR.out
          obtain ⟨pp, pc, hpv⟩ := row_slice HK.out.row
          subst hpv
          obtain ⟨_, _, _⟩ := three_cells HK.out.box
          clear HP
          go_wp2_with fail
          have q := three_cells (set_three HR.out (.string U1) (.string U2) (.slice pp acc.length pc))
          refine bodyPost_ret (v := .tuple #[.agg #[.string U1, .string U2, .slice pp acc.length pc], .bool true]) (by simp [results, Tryd.results7, go_sem, q.1, q.2.1, q.2.2]) rfl ?_
          rw [HF.out]
          refine ⟨.slice pp acc.length pc, by rw [← HU1.out, ← HU2.out], ?_, below_three BR.out (Nat.le_refl _) _ _ _⟩
          have hr : ∀ k, (Value.slice pp acc.length pc).ownBlock = some k → k ≠ w.heap.size := fun k e => by have := (HK.out.row.lt k e).1; omega
          refine row_baseL (ownsRow_setCell_other (ownsRow_setCell_other (ownsRow_setCell_other HK.out.row (fun e => hr _ e rfl) _) (fun e => hr _ e rfl) _) (fun e => hr _ e rfl) _) (by omega)
end Go.Proofs.YtjleadlecdcdeaaDoor

/-
  Kinds: impl's ReadKind tells what the model's does.
-/
namespace Go.Proofs.YtjleadlecdcdeaaDoor
set_option linter.unusedVariables false
open Go.RowKit

theorem implKind_is : KindIs := fun s w hs hM => implReadKind_any s w hs hM
end Go.Proofs.YtjleadlecdcdeaaDoor

/-
  A slice of integers that came in.
-/
namespace Go.Proofs.YtjleadlecdcdeaaDoor
set_option linter.unusedVariables false
open Go.RowKit

/-- A slice of integers that came in. -/
def IsRow (k : IntKind) (w : World) (a : Option Addr) (len cap : Nat) (zs : List Int) : Prop :=
  (a = none ∧ len = 0 ∧ cap = 0 ∧ zs = []) ∨
  ∃ x, a = some x ∧ len ≤ cap ∧ cap ≤ maxLen ∧ zs.length = cap ∧ (∀ i, i < zs.length → w.cell? (x.add i) = some (.int k (zs.getD i 0))) ∧ ∀ n ∈ zs, (Lit.int k n).wf = true

theorem IsRow.at {w : World} {a : Option Addr} {len cap : Nat} {zs : List Int} (h : IsRow .u8 w a len cap zs) (j : Nat) (hj : j < len) :
    ∃ b off n, a = some ⟨b, off, none⟩ ∧ w.cell? ⟨b, off + j, none⟩ = some (.int .u8 n) ∧ 0 ≤ n ∧ n ≤ 255 ∧ b < w.heap.size := by
  rcases h with ⟨_, h, _⟩ | ⟨x, rfl, h1, _, h3, h4, h5⟩
  · omega
  · obtain ⟨b, off, spot⟩ := x
    have hc := h4 j (by omega)
    have hspot : spot = none := by
      have := h4 0 (by omega)
      cases spot with
      | none => rfl
      | some s => simp [World.cell?, Addr.add] at this; split at this <;> simp at this
    subst hspot
    have hm : zs.getD j 0 ∈ zs := by
      rw [List.getD_eq_getElem?_getD, List.getElem?_eq_getElem (by omega)]
      exact List.getElem_mem _
    have hw := h5 _ hm
    generalize zs.getD j 0 = q at hw hc hm
    have hb : 0 ≤ q ∧ q ≤ 255 := by simpa [Lit.wf, IntKind.min, IntKind.max, IntKind.signed, IntKind.bits] using hw
    have hc' : w.cell? ⟨b, off + j, none⟩ = some (.int .u8 q) := by
      have e : (⟨b, off, none⟩ : Addr).add j = ⟨b, off + j, none⟩ := by unfold Addr.add; split <;> simp_all
      rw [← e]; exact hc
    exact ⟨b, off, _, rfl, hc', hb.1, hb.2, block_lt_of_cell hc'⟩
theorem IsRow.below {w w' : World} {a : Option Addr} {len cap : Nat} {zs : List Int} {B : Nat} (h : IsRow .u8 w a len cap zs) (hb : Below B w w') (hB : w.heap.size ≤ B) : IsRow .u8 w' a len cap zs := by
  rcases h with h | ⟨x, rfl, h1, h2, h3, h4, h5⟩
  · exact .inl h
  · refine .inr ⟨x, rfl, h1, h2, h3, fun i hi => ?_, h5⟩
    have := block_lt_of_cell (h4 i hi)
    rw [hb.cell (by omega)]
    exact h4 i hi
end Go.Proofs.YtjleadlecdcdeaaDoor

/-
  The draws: a cursor over the code's bytes, and what one byte drawn is.
-/
namespace Go.Proofs.YtjleadlecdcdeaaDoor
set_option linter.unusedVariables false
open Go.RowKit

/-- The code that a law was called with. -/
structure Code where
  a : Option Addr
  len : Nat
  cap : Nat
  zs : List Int

/-- A cursor over the code, in block g, at place i with the number h; w0 is the world in which the law began. -/
structure Cur (K : Code) (w0 w : World) (g i : Nat) (h : Int) : Prop where
  row : IsRow .u8 w0 K.a K.len K.cap K.zs
  few : K.len ≤ 1048576
  base : w0.heap.size ≤ g
  below : Below w0.heap.size w0 w
  cell : w.heap[g]? = some (.cells #[.slice K.a K.len K.cap, .int .i64 i, .int .i64 h] 56 (0, 0))
  le : i ≤ K.len

theorem Cur.lt {K : Code} {w0 w : World} {g i : Nat} {h : Int} (c : Cur K w0 w g i h) : g < w.heap.size := (Array.getElem?_eq_some_iff.1 c.cell).1
theorem Cur.later {K : Code} {w0 w w' : World} {g i : Nat} {h : Int} (c : Cur K w0 w g i h) (hb : Below w.heap.size w w') : Cur K w0 w' g i h :=
  ⟨c.row, c.few, c.base, c.below.trans (hb.mono c.below.size), (hb.block g c.lt).trans c.cell, c.le⟩

def nextH (h : Int) : Int := wrap64 (wrap64 (h * 6364136223846793005) + 1442695040888963407)
def rawX (h : Int) : Int := bits .and .i64 (bits .xor .i64 (h / 8589934592) (h / 35184372088832)) 255

theorem and255 (x : Int) : 0 ≤ bits .and .i64 x 255 ∧ bits .and .i64 x 255 ≤ 255 := by
  have h : (BitVec.ofInt IntKind.i64.bits x &&& BitVec.ofInt IntKind.i64.bits 255).toNat ≤ 255 := by
    rw [BitVec.toNat_and]
    exact Nat.le_trans Nat.and_le_right (by decide)
  have e : bits .and .i64 x 255 = IntKind.i64.wrap ((BitVec.ofInt IntKind.i64.bits x &&& BitVec.ofInt IntKind.i64.bits 255).toNat : Int) := rfl
  rw [e]
  generalize (BitVec.ofInt IntKind.i64.bits x &&& BitVec.ofInt IntKind.i64.bits 255).toNat = n at h
  have : IntKind.i64.wrap (n : Int) = n := IntWalk.i64_in _ (by omega)
  rw [this]
  omega

/-- One byte is drawn: the cursor goes on. -/
def DrawnByte (K : Code) (w0 : World) (g i : Nat) (h : Int) (w : World) (e : Ending) (w' : World) : Prop :=
  ∃ (x : Int) (i' : Nat) (h' : Int), e = .returned (.int .i64 x) ∧ 0 ≤ x ∧ x ≤ 255 ∧ Cur K w0 w' g i' h' ∧ w.grownBy w' (some g) ∧ h' = nextH h ∧
    ((i < K.len ∧ i' = i + 1) ∨ (i = K.len ∧ i' = i ∧ x = rawX h'))

theorem cur_cells {K : Code} {w0 w : World} {g i : Nat} {h : Int} (c : Cur K w0 w g i h) :
    w.cell? ⟨g, 0, none⟩ = some (.slice K.a K.len K.cap) ∧ w.cell? ⟨g, 1, none⟩ = some (.int .i64 i) ∧ w.cell? ⟨g, 2, none⟩ = some (.int .i64 h) ∧ w.frozen? ⟨g, 1, none⟩ = false ∧ w.frozen? ⟨g, 2, none⟩ = false := by
  have hg := c.cell
  refine ⟨by simp [World.cell?, hg], by simp [World.cell?, hg], by simp [World.cell?, hg], by simp [World.frozen?, hg], by simp [World.frozen?, hg]⟩


theorem Cur.step {K : Code} {w0 w w' : World} {g i : Nat} {h : Int} (c : Cur K w0 w g i h) (hg : w.grownBy w' (some g)) (i' : Nat) (h' : Int) (hi : i' ≤ K.len)
    (hc : w'.heap[g]? = some (.cells #[.slice K.a K.len K.cap, .int .i64 i', .int .i64 h'] 56 (0, 0))) : Cur K w0 w' g i' h' :=
  ⟨c.row, c.few, c.base, c.below.grown hg c.below.size (fun k e => by cases e; exact c.base), hc, hi⟩

set_option maxRecDepth 100000 in
set_option maxHeartbeats 400000 in
theorem byte_end {K : Code} {w0 w : World} {g i : Nat} {h : Int} (c : Cur K w0 w g i h) (hi : K.len ≤ i) :
    Calls Tryd.prog 49 #[.pointer (some ⟨g, 0, none⟩)] w (DrawnByte K w0 g i h w) := by
  obtain ⟨hc0, hc1, hc2, hf1, hf2⟩ := cur_cells c
  have hl := c.few
  have hle := c.le
  have C := Lib.hid c
  clear c
  go_enter Tryd.func49, Tryd.ntmps49
  go_wp2
  go_quiet (fail)
  go_wp2
  go_quiet (fail)
  go_wp2
  go_ret
  refine ⟨_, i, nextH h, rfl, (and255 _).1, (and255 _).2, ?_, ?_, rfl, .inr ⟨by omega, rfl, rfl⟩⟩
  · refine C.out.step (grownBy_drewN (grownBy_drewN (grownBy_one _ _ _ _) _) _) i (nextH h) hle ?_
    exact heap_setCell_same _ _ _ _ _ _ C.out.cell
  · exact grownBy_drewN (grownBy_drewN (grownBy_one _ _ _ _) _) _

set_option maxRecDepth 100000 in
set_option maxHeartbeats 400000 in
theorem byte_more {K : Code} {w0 w : World} {g i : Nat} {h : Int} (c : Cur K w0 w g i h) (hi : i < K.len) :
    Calls Tryd.prog 49 #[.pointer (some ⟨g, 0, none⟩)] w (DrawnByte K w0 g i h w) := by
  obtain ⟨hc0, hc1, hc2, hf1, hf2⟩ := cur_cells c
  obtain ⟨b, off, n, ha, hcn0, hn0, hn1, hb⟩ := c.row.at i hi
  have hcn : w.cell? ⟨b, off + i, none⟩ = some (.int .u8 n) := (c.below.cell (p := ⟨b, off + i, none⟩) hb).trans hcn0
  have hbg : b ≠ g := by have := c.base; omega
  rw [ha] at hc0
  have hl := c.few
  have C := Lib.hid c
  clear c hcn0
  have hi1 : (0 : Int) ≤ (i : Int) := by omega
  have hi2 : (i : Int) < (K.len : Int) := by omega
  go_enter Tryd.func49, Tryd.ntmps49
  go_wp2
  go_quiet (fail)
  go_wp2
  go_quiet (fail)
  go_wp2
  go_quiet (fail)
  go_wp2
  go_ret
  have hg2 : w.grownBy (w.setCell ⟨g, 2, none⟩ (.int .i64 (nextH h))) (some g) := grownBy_one _ _ _ _
  refine ⟨_, i + 1, nextH h, rfl, (and255 _).1, (and255 _).2, ?_, ?_, rfl, .inl ⟨hi, rfl⟩⟩
  · refine C.out.step (grownBy_trans (grownBy_drewN hg2 _) (grownBy_one _ _ _ _)) (i + 1) (nextH h) (by omega) ?_
    exact heap_setCell_same _ _ _ _ _ _ (heap_setCell_same _ _ _ _ _ _ C.out.cell)
  · exact grownBy_trans (grownBy_drewN hg2 _) (grownBy_one _ _ _ _)
end Go.Proofs.YtjleadlecdcdeaaDoor

/-
  The draws: a new cursor, and a number below another.
-/
namespace Go.Proofs.YtjleadlecdcdeaaDoor
set_option linter.unusedVariables false
open Go.RowKit

/-- A new cursor in a block of its own. -/
def DrawnNew (K : Code) (w0 w : World) (e : Ending) (w' : World) : Prop :=
  ∃ h : Int, e = .returned (.pointer (some ⟨w.heap.size, 0, none⟩)) ∧ Cur K w0 w' w.heap.size 0 h ∧ Below w.heap.size w w'

set_option maxRecDepth 100000 in
set_option maxHeartbeats 400000 in
theorem new_any (K : Code) (w0 w : World) (hr : IsRow .u8 w0 K.a K.len K.cap K.zs) (hl : K.len ≤ 1048576) (hb : Below w0.heap.size w0 w) :
    Calls Tryd.prog 17 #[.slice K.a K.len K.cap] w (DrawnNew K w0 w) := by
  have HB := Lib.hid hb
  have HR := Lib.hid hr
  clear hb hr
  go_enter Tryd.func17, Tryd.ntmps17
  go_wp2
  go_loop [3, 4] (fun h i => ∃ (k : Nat) (q : Int), k ≤ K.len ∧ i = .int .i64 k ∧ h = .int .i64 q) (fun _ i => K.len - (intOf i).toNat)
  case atStart => exact ⟨0, _, Nat.zero_le _, rfl, rfl⟩
  case round =>
    obtain ⟨k, q, hk, rfl, rfl⟩ := hrel
    by_cases hlt : k < K.len ∧ k < 4000
    · obtain ⟨h1, h2⟩ := hlt
      obtain ⟨b, off, n, ha, hcn0, hn0, hn1, hbl⟩ := HR.out.at k h1
      have hcn : w.cell? ⟨b, off + k, none⟩ = some (.int .u8 n) := (HB.out.cell (p := ⟨b, off + k, none⟩) hbl).trans hcn0
      have hi1 : (0 : Int) ≤ (k : Int) := by omega
      have hi2 : (k : Int) < (K.len : Int) := by omega
      rw [ha]
      clear hcn0
      go_wp2
      go_round
      case rel => exact ⟨k + 1, _, by omega, by go_num, rfl⟩
      case measure => simp [intOf]; omega
    · have HN := Lib.hid hlt
      clear hlt
      by_cases h1 : k < K.len
      · have h2 : (4000 : Int) ≤ (k : Int) := by have := HN.out; omega
        have h3 : decide ((k : Int) < 4000) = false := by simp; omega
        go_wp2
        go_ret
        exact ⟨q, rfl, ⟨HR.out, hl, HB.out.size, HB.out.alloc HB.out.size _, by simpa using heap_alloc_new w _, Nat.zero_le _⟩, (Below.refl _ _).alloc (Nat.le_refl _) _⟩
      · go_wp2
        go_ret
        exact ⟨q, rfl, ⟨HR.out, hl, HB.out.size, HB.out.alloc HB.out.size _, by simpa using heap_alloc_new w _, Nat.zero_le _⟩, (Below.refl _ _).alloc (Nat.le_refl _) _⟩

/-- A number below n is drawn. -/
def DrawnBelow (K : Code) (w0 : World) (g i : Nat) (h n : Int) (w : World) (e : Ending) (w' : World) : Prop :=
  ∃ (v : Int) (i' : Nat) (h' : Int), e = .returned (.int .i64 v) ∧ 0 ≤ v ∧ v < n ∧ Cur K w0 w' g i' h' ∧ w.grownBy w' (some g) ∧
    (n ≤ 256 → h' = nextH h ∧ ((i < K.len ∧ i' = i + 1) ∨ (i = K.len ∧ i' = i ∧ v = rawX h' % n)))

theorem byte_any {K : Code} {w0 w : World} {g i : Nat} {h : Int} (c : Cur K w0 w g i h) :
    Calls Tryd.prog 49 #[.pointer (some ⟨g, 0, none⟩)] w (DrawnByte K w0 g i h w) := by
  by_cases hi : i < K.len
  · exact byte_more c hi
  · exact byte_end c (by omega)

set_option maxRecDepth 100000 in
set_option maxHeartbeats 400000 in
theorem below_any {K : Code} {w0 w : World} {g i : Nat} {h : Int} (c : Cur K w0 w g i h) (n : Int) (h1 : 1 ≤ n) (h2 : n ≤ 4294967296) :
    Calls Tryd.prog 36 #[.pointer (some ⟨g, 0, none⟩), .int .i64 n] w (DrawnBelow K w0 g i h n w) := by
  have C := Lib.hid c
  clear c
  by_cases hs : n ≤ 256
  · go_enter Tryd.func36, Tryd.ntmps36
    go_wp2_with fail
    refine (byte_any C.out).mono ?_
    rintro e w1 ⟨x, i', h', rfl, hx0, hx1, hc1, hg1, hh, hor⟩
    have HC1 := Lib.hid hc1
    have HG1 := Lib.hid hg1
    have HH := Lib.hid hh
    have HOR := Lib.hid hor
    clear hc1 hg1 hh hor
    go_wp2_with fail
    go_ret
    refine ⟨x % n, i', h', rfl, Int.emod_nonneg _ (by omega), Int.emod_lt_of_pos _ (by omega), HC1.out, HG1.out, fun _ => ⟨HH.out, ?_⟩⟩
    rcases HOR.out with ⟨a, b⟩ | ⟨a, b, d⟩
    · exact .inl ⟨a, b⟩
    · exact .inr ⟨a, b, by rw [d]⟩
  · have hs' : 256 < n := by omega
    clear hs
    go_enter Tryd.func36, Tryd.ntmps36
    go_wp2_with fail
    refine (byte_any C.out).mono ?_
    rintro e w1 ⟨x1, i1, q1, rfl, hx1, hy1, hc1, hg1, _, _⟩
    have HC1 := Lib.hid hc1
    have HG1 := Lib.hid hg1
    clear hc1 hg1
    go_wp2_with fail
    refine (byte_any HC1.out).mono ?_
    rintro e w2 ⟨x2, i2, q2, rfl, hx2, hy2, hc2, hg2, _, _⟩
    have HC2 := Lib.hid hc2
    have HG2 := Lib.hid hg2
    clear hc2 hg2
    go_wp2_with fail
    refine (byte_any HC2.out).mono ?_
    rintro e w3 ⟨x3, i3, q3, rfl, hx3, hy3, hc3, hg3, _, _⟩
    have HC3 := Lib.hid hc3
    have HG3 := Lib.hid hg3
    clear hc3 hg3
    go_wp2_with fail
    refine (byte_any HC3.out).mono ?_
    rintro e w4 ⟨x4, i4, q4, rfl, hx4, hy4, hc4, hg4, _, _⟩
    have HC4 := Lib.hid hc4
    have HG4 := Lib.hid hg4
    clear hc4 hg4
    go_wp2_with fail
    go_ret
    exact ⟨_, i4, q4, rfl, Int.emod_nonneg _ (by omega), Int.emod_lt_of_pos _ (by omega), HC4.out, grownBy_trans (grownBy_trans (grownBy_trans HG1.out HG2.out) HG3.out) HG4.out, fun hn => by omega⟩
end Go.Proofs.YtjleadlecdcdeaaDoor

/-
  Slices of values: what a walk reads of one; a world that has drawn at most.
-/
namespace Go.Proofs.YtjleadlecdcdeaaDoor
set_option linter.unusedVariables false
open Go.RowKit

/-- v is a slice of the values xs, whose cells may be read and written. -/
def ValsAt (w : World) (v : Value) (xs : List Value) : Prop :=
  (xs = [] ∧ ∃ p cap, v = .slice p 0 cap) ∨
  ∃ g cap, v = .slice (some ⟨g, 0, none⟩) xs.length cap ∧ g < w.heap.size ∧ ∀ j, j < xs.length → w.cell? ⟨g, j, none⟩ = xs[j]? ∧ w.frozen? ⟨g, j, none⟩ = false

theorem valsAt_of_row {w : World} {B : Nat} {e : TypeId} {v : Value} {n : Nat} {xs : List Value} (h : w.ownsRow B e 1 v n xs) : ValsAt w v xs := by
  obtain ⟨hl, h⟩ := h
  rw [Nat.mul_one] at hl
  rcases h with ⟨rfl, rfl⟩ | ⟨g, cap, cur, rfl, _, hg, hn, _, hc, ht⟩
  · exact .inl ⟨List.eq_nil_of_length_eq_zero hl, _, _, rfl⟩
  · refine .inr ⟨g, cap, by rw [hl], (Array.getElem?_eq_some_iff.1 hg).1, fun j hj => ⟨?_, ?_⟩⟩
    · simp only [World.cell?, hg]
      rw [← ht]
      simp [List.getElem?_take]
      intro h1; omega
    · simp [World.frozen?, hg]
theorem ValsAt.of_heap {w w' : World} {v : Value} {xs : List Value} (h : ValsAt w v xs) (e : w'.heap = w.heap) : ValsAt w' v xs := by
  rcases h with h | ⟨g, cap, h1, h2, h3⟩
  · exact .inl h
  · exact .inr ⟨g, cap, h1, by rw [e]; exact h2, fun j hj => by
      have := h3 j hj
      simp only [World.cell?, World.frozen?, e] at this ⊢
      exact this⟩

/-- The world has drawn at most. -/
def Quietly (w w' : World) : Prop := w'.heap = w.heap ∧ Below w.heap.size w w'
theorem Quietly.refl (w : World) : Quietly w w := ⟨rfl, Below.refl _ _⟩
theorem Quietly.drewN {w wr : World} (h : Quietly w wr) (n : Nat) : Quietly w (wr.drewN n) := by
  obtain ⟨h1, h2⟩ := h
  exact ⟨h1, ⟨h2.os, h2.tape, h2.output, h2.size, h2.block⟩⟩

theorem str_ne {x y : ByteArray} (h : x ≠ y) : (x.toList == y.toList) = false := by
  rw [beq_eq_false_iff_ne, Lib.toList_data, Lib.toList_data]
  intro e; apply h
  exact ByteArray.ext (Array.ext' e)
theorem ValsAt.later {w w' : World} {v : Value} {xs : List Value} (h : ValsAt w v xs) (hb : Below w.heap.size w w') : ValsAt w' v xs := by
  rcases h with h | ⟨g, cap, h1, h2, h3⟩
  · exact .inl h
  · refine .inr ⟨g, cap, h1, Nat.lt_of_lt_of_le h2 hb.size, fun j hj => ?_⟩
    have := h3 j hj
    simp only [World.cell?, World.frozen?, hb.block g h2] at this ⊢
    exact this
end Go.Proofs.YtjleadlecdcdeaaDoor

/-
  The draws: one of a list, once in so many.
-/
namespace Go.Proofs.YtjleadlecdcdeaaDoor
set_option linter.unusedVariables false
open Go.RowKit

/-- One of the texts L is drawn. -/
def DrawnPick (K : Code) (w0 : World) (g : Nat) (L : List ByteArray) (w : World) (e : Ending) (w' : World) : Prop :=
  ∃ (s : ByteArray) (i' : Nat) (h' : Int), e = .returned (.string s) ∧ s ∈ L ∧ Cur K w0 w' g i' h' ∧ w.grownBy w' (some g)

set_option maxRecDepth 100000 in
set_option maxHeartbeats 400000 in
theorem pick_any {K : Code} {w0 w : World} {g i : Nat} {h : Int} (c : Cur K w0 w g i h) (v : Value) (L : List ByteArray) (hv : ValsAt w v (L.map Value.string)) (hne : v.ownBlock ≠ some g) (h1 : 0 < L.length) (h2 : L.length ≤ 1000) :
    Calls Tryd.prog 19 #[.pointer (some ⟨g, 0, none⟩), v] w (DrawnPick K w0 g L w) := by
  rcases hv with ⟨h, _⟩ | ⟨gl, cap, rfl, hgl, hc⟩
  · have := congrArg List.length h
    rw [List.length_map] at this
    simp only [List.length_nil] at this
    omega
  have hgg : gl ≠ g := fun e => hne (by rw [e]; rfl)
  simp only [List.length_map] at hc ⊢
  have C := Lib.hid c
  have HC := Lib.hid hc
  clear c hc hne
  go_enter Tryd.func19, Tryd.ntmps19
  go_wp2_with fail
  refine (below_any C.out L.length (by omega) (by omega)).mono ?_
  rintro e w1 ⟨x0, i1, h1', rfl, hx0, hx1, hc1, hg1, _⟩
  obtain ⟨x, rfl⟩ := Int.eq_ofNat_of_zero_le hx0
  have hxl : x < L.length := by omega
  have hcell : w1.cell? ⟨gl, x, none⟩ = some (.string L[x]) := by
    have hb : w1.heap[gl]? = w.heap[gl]? := hg1.block gl hgl (fun e => hgg (Option.some.inj e))
    have := (HC.out x hxl).1
    simp only [World.cell?, hb] at this ⊢
    rw [this, List.getElem?_map, List.getElem?_eq_getElem hxl]
    rfl
  have hmem : L[x] ∈ L := List.getElem_mem _
  generalize L[x] = s at hcell hmem
  have HC1 := Lib.hid hc1
  have HG1 := Lib.hid hg1
  clear hc1 hg1
  go_wp2_with fail
  go_ret
  exact ⟨s, i1, h1', rfl, hmem, HC1.out, HG1.out⟩

theorem valsAt_new (w : World) (l : List Value) (T : TypeId) (n cap : Nat) (hn : n = l.length) : ValsAt (w.alloc (.cells l.toArray T)) (.slice (some ⟨w.heap.size, 0, none⟩) n cap) l := by
  subst hn
  refine .inr ⟨_, cap, rfl, by simp, fun j hj => ⟨?_, ?_⟩⟩
  · simp
  · exact World.frozen?_alloc_new _ _ _ _

/-- A text of at most m bytes is drawn by a cursor that goes on. -/
def DrawnStr (K : Code) (w0 : World) (g m : Nat) (w : World) (e : Ending) (w' : World) : Prop :=
  ∃ (s : ByteArray) (i' : Nat) (h' : Int), e = .returned (.string s) ∧ s.size ≤ m ∧ Cur K w0 w' g i' h' ∧ w.grownBy w' (some g)

def allStr (m : Nat) (cs : Array Value) : Bool := cs.toList.all fun v => match v with | .string s => decide (s.size ≤ m) | _ => false
theorem allStr_list : ∀ (l : List Value) (m : Nat), (l.all fun v => match v with | .string s => decide (s.size ≤ m) | _ => false) = true → ∃ L : List ByteArray, l = L.map Value.string ∧ ∀ s ∈ L, s.size ≤ m
  | [], _, _ => ⟨[], rfl, by simp⟩
  | v :: l, m, h => by
    rw [List.all_cons, Bool.and_eq_true] at h
    obtain ⟨L, h1, h2⟩ := allStr_list l m h.2
    cases v with
    | string s => exact ⟨s :: L, by rw [h1]; rfl, by
        intro t ht
        rcases List.mem_cons.1 ht with rfl | ht
        · simpa using h.1
        · exact h2 t ht⟩
    | _ => simp at h

/-- One of a literal list, just laid. -/
theorem pick_lit {K : Code} {w0 w : World} {g i : Nat} {h : Int} (c : Cur K w0 w g i h) (m : Nat) {cs : Array Value} {n cap : Nat} (hall : allStr m cs = true) (hn : n = cs.size) (h0 : 0 < n) (h9 : n ≤ 1000) :
    Calls Tryd.prog 19 #[.pointer (some ⟨g, 0, none⟩), .slice (some ⟨w.heap.size, 0, none⟩) n cap] (w.alloc (.cells cs 9)) (DrawnStr K w0 g m w) := by
  obtain ⟨L, h1, h2⟩ := allStr_list _ _ hall
  have hL : L.length = n := by
    have := congrArg List.length h1
    simp at this; omega
  have hv := valsAt_new w (L.map Value.string) 9 n cap (by simp [hL])
  rw [← h1] at hv
  simp only [Array.toArray_toList] at hv
  rw [h1] at hv
  have hcl := c.lt
  refine (pick_any (c.later ((Below.refl _ _).alloc (Nat.le_refl _) _)) _ L hv (by simp [Value.ownBlock]; omega) (by omega) (by omega)).mono ?_
  rintro e w' ⟨s, i', h', e1, e2, e3, e4⟩
  exact ⟨s, i', h', e1, h2 s e2, e3, grownBy_trans (World.grownBy_alloc _ _ _) e4⟩

theorem Cur.alloc {K : Code} {w0 w : World} {g i : Nat} {h : Int} (c : Cur K w0 w g i h) (o : Obj) : Cur K w0 (w.alloc o) g i h := c.later ((Below.refl _ _).alloc (Nat.le_refl _) _)
/-- The cursor's steps leave what lay ahead of the cursor. -/
theorem below_step {w w1 w2 : World} {g : Nat} (hb : Below w.heap.size w w1) (hg : w1.grownBy w2 (some g)) (h : w.heap.size ≤ g) : Below w.heap.size w w2 :=
  hb.grown hg hb.size (fun k e => by cases e; exact h)
end Go.Proofs.YtjleadlecdcdeaaDoor

/-
  A loop that makes a text longer by what is drawn.
-/
namespace Go.Proofs.YtjleadlecdcdeaaDoor
set_option linter.unusedVariables false
open Go.RowKit

/-- Between two rounds: a text of at most m bytes, and the cursor. -/
def StrCur (K : Code) (w0 w : World) (g m : Nat) (v : Value) (wr : World) : Prop :=
  ∃ (s : ByteArray) (i : Nat) (h : Int), v = .string s ∧ s.size ≤ m ∧ Cur K w0 wr g i h ∧ w.grownBy wr (some g)
end Go.Proofs.YtjleadlecdcdeaaDoor

/-
  A text that is drawn.
-/
namespace Go.Proofs.YtjleadlecdcdeaaDoor
set_option linter.unusedVariables false
open Go.RowKit

/-- A text of at most m bytes is drawn. -/
def DrawsAd (m : Nat) (w : World) (e : Ending) (w' : World) : Prop := ∃ s : ByteArray, e = .returned (.string s) ∧ s.size ≤ m ∧ Below w.heap.size w w'
end Go.Proofs.YtjleadlecdcdeaaDoor

/-
  The draws: a text with a byte changed, cut or put in, sometimes.
-/
namespace Go.Proofs.YtjleadlecdcdeaaDoor
set_option linter.unusedVariables false
open Go.RowKit

theorem grownBy_undrew {a b : World} {row : Option Nat} (h : a.drew.grownBy b row) : a.grownBy b row := ⟨h.os, h.tape, h.output, h.size, h.block⟩

set_option maxRecDepth 100000 in
set_option maxHeartbeats 2000000 in
theorem bent_any {K : Code} {w0 w : World} {g i : Nat} {h : Int} (c : Cur K w0 w g i h) (s : ByteArray) (hs : s.size ≤ 100000) :
    Calls Tryd.prog 18 #[.pointer (some ⟨g, 0, none⟩), .string s] w (DrawnStr K w0 g (s.size + 100) w) := by
  have C := Lib.hid c
  clear c
  have hw : IntKind.i64.wrap ((s.size : Int) + 1) = (s.size : Int) + 1 := by rw [IntKind.wrap_i64]; omega
  go_enter Tryd.func18, Tryd.ntmps18
  go_wp2_with fail
  refine (below_any C.out ((s.size : Int) + 1) (by omega) (by omega)).mono ?_
  rintro e w1 ⟨x0, i1, h1, rfl, hx0, hx1, hc1, hg1, _⟩
  obtain ⟨x, rfl⟩ := Int.eq_ofNat_of_zero_le hx0
  have hxs : x ≤ s.size := by omega
  clear hx0 hx1
  have C1 := Lib.hid hc1
  have G1 := Lib.hid hg1
  clear hc1 hg1
  go_wp2_with fail
  refine (below_any C1.out 10 (by decide) (by decide)).mono ?_
  rintro e w2 ⟨y0, i2, h2, rfl, hy0, hy1, hc2, hg2, _⟩
  obtain ⟨y, rfl⟩ := Int.eq_ofNat_of_zero_le hy0
  have C2 := Lib.hid hc2
  have G2 := Lib.hid (grownBy_trans G1.out hg2)
  clear hc2 hg2
  obtain rfl | rfl | rfl | hy : y = 0 ∨ y = 1 ∨ y = 2 ∨ 3 ≤ y := by omega
  · go_wp2_with fail
    go_ret
    exact ⟨_, i2, h2, rfl, by simp; omega, C2.out, G2.out⟩
  · have C2d := C2.out.later ((Below.refl _ _).drew)
    have q1 : (0 : Int) ≤ (x : Int) := by omega
    have q2 : (x : Int) ≤ (s.size : Int) := by omega
    go_wp2_with fail
    go_region_held3 (fun _ => True) (first | go_keep | exact trivial) (first | (go_at_call 19; refine (pick_lit C2d 100 (by decide) (by rfl) (by decide) (by decide)).mono ?_; rintro e w3 ⟨t, i3, h3, rfl, ht, hc3, hg3⟩; have q6 : ¬ 9223372036854775807 < x + t.size := (by omega); have q7 : ¬ 9223372036854775807 < x + t.size + (s.size - x) := (by omega)))
    have C3 := Lib.hid hc3
    have G3 := Lib.hid (grownBy_trans G2.out (grownBy_undrew hg3))
    clear hc3 hg3
    go_wp2_with fail
    go_ret
    exact ⟨_, i3, h3, rfl, by simp; omega, C3.out, G3.out⟩
  · by_cases hlt : x < s.size
    · have q3 : (x : Int) + 1 ≤ (s.size : Int) := by omega
      have q4 : IntKind.i64.wrap ((x : Int) + 1) = (x : Int) + 1 := by rw [IntKind.wrap_i64]; omega
      have q5 : (0 : Int) ≤ (x : Int) + 1 := by omega
      have C2d := C2.out.later ((Below.refl _ _).drew)
      have q1 : (0 : Int) ≤ (x : Int) := by omega
      have q2 : (x : Int) ≤ (s.size : Int) := by omega
      go_wp2_with fail
      go_region_held3 (fun _ => True) (first | go_keep | exact trivial) (first | (go_at_call 19; refine (pick_lit C2d 100 (by decide) (by rfl) (by decide) (by decide)).mono ?_; rintro e w3 ⟨t, i3, h3, rfl, ht, hc3, hg3⟩; have q6 : ¬ 9223372036854775807 < x + t.size := (by omega); have q7 : ¬ 9223372036854775807 < x + t.size + (s.size - (x + 1)) := (by omega)))
      have C3 := Lib.hid hc3
      have G3 := Lib.hid (grownBy_trans G2.out (grownBy_undrew hg3))
      clear hc3 hg3
      go_wp2_with fail
      go_ret
      exact ⟨_, i3, h3, rfl, by simp; omega, C3.out, G3.out⟩
    · go_wp2_with fail
      go_ret
      exact ⟨_, i2, h2, rfl, by omega, C2.out, G2.out⟩
  · have e0 : ((y : Int) == 0) = false := by rw [beq_eq_false_iff_ne]; omega
    have e1 : ((y : Int) == 1) = false := by rw [beq_eq_false_iff_ne]; omega
    have e2 : ((y : Int) == 2) = false := by rw [beq_eq_false_iff_ne]; omega
    go_wp2_with fail
    go_ret
    exact ⟨_, i2, h2, rfl, by omega, C2.out, G2.out⟩
end Go.Proofs.YtjleadlecdcdeaaDoor

/-
  The draws of ReadKind, ParamOf.
-/
namespace Go.Proofs.YtjleadlecdcdeaaDoor
set_option linter.unusedVariables false
open Go.RowKit

set_option maxRecDepth 100000 in
set_option maxHeartbeats 1000000 in
theorem drawReadKind_any (K : Code) (w0 w : World) (hr : IsRow .u8 w0 K.a K.len K.cap K.zs) (hl : K.len ≤ 1048576) (hb : Below w0.heap.size w0 w) :
    Calls Tryd.prog 6 #[.slice K.a K.len K.cap] w (DrawsAd 500 w) := by
  go_enter Tryd.func6, Tryd.ntmps6
  go_wp2_with fail
  refine (new_any K w0 w hr hl hb).mono ?_
  rintro e w1 ⟨h1, rfl, hc1, hB1⟩
  have C1 := Lib.hid hc1
  have B1 := Lib.hid hB1
  clear hc1 hB1
  go_wp2_with fail
  refine (pick_lit C1.out 100 (by decide) (by rfl) (by decide) (by decide)).mono ?_
  rintro e w2 ⟨s, i2, h2, rfl, hs, hc2, hg2⟩
  have C2 := Lib.hid hc2
  have B2 := Lib.hid (below_step B1.out hg2 (Nat.le_refl _))
  clear hc2 hg2
  go_wp2_with fail
  refine (bent_any C2.out s (by omega)).mono ?_
  rintro e w3 ⟨t, i3, h3, rfl, ht, hc3, hg3⟩
  have B3 := Lib.hid (below_step B2.out hg3 (Nat.le_refl _))
  clear hc3 hg3
  go_wp2_with fail
  go_ret
  exact ⟨t, rfl, by omega, B3.out⟩

theorem upS_len (l : List UInt8) : (upS l).length = l.length := by simp [upS]
theorem paramOf_name {s : List UInt8} {p : Pr} (h : paramOf s = some p) : p.name.length ≤ s.length := by
  unfold paramOf at h
  split at h
  · cases hv : valOf (cutT 61 s).2.1 with
    | none => rw [hv] at h; cases h
    | some v =>
      rw [hv] at h
      have := Option.some.inj h
      subst this
      show (upS _).length ≤ _
      rw [upS_len]
      exact (cutT_len 61 s).1
  · cases h
theorem paramsA_names {m : Nat} : ∀ (L : List (List UInt8)) (acc l : List Pr), (∀ x ∈ L, x.length ≤ m) → (∀ f ∈ acc, f.name.length ≤ m) → paramsA acc L = some l → ∀ f ∈ l, f.name.length ≤ m
  | [], acc, l, _, ha, h => by injection h with h; subst h; exact ha
  | x :: r, acc, l, hL, ha, h => by
    rw [paramsA_cons] at h
    split at h
    · exact paramsA_names r acc l (fun y hy => hL y (by simp [hy])) ha h
    · cases hp : paramOf x with
      | none => rw [hp] at h; cases h
      | some p =>
        rw [hp] at h
        refine paramsA_names r (acc ++ [p]) l (fun y hy => hL y (by simp [hy])) (fun f hf => ?_) h
        rcases List.mem_append.1 hf with hf | hf
        · exact ha f hf
        · obtain rfl := List.mem_singleton.1 hf
          exact Nat.le_trans (paramOf_name hp) (hL x (by simp))
theorem kdL_names (s : ByteArray) : ∀ f ∈ kdL (kindOf s.data.toList), f.name.length ≤ s.size := by
  have hsm := split_small s 59
  unfold kindOf semis
  rw [show mkB s.data.toList = s from rfl]
  cases hL : splitAll s 59 with
  | nil => intro f hf; cases hf
  | cons x r =>
    rw [hL] at hsm
    simp only [List.map_cons]
    split
    · cases hp : paramsA [] (r.map (fun b => b.data.toList)) with
      | none => intro f hf; cases hf
      | some l =>
        refine paramsA_names _ _ _ (fun y hy => ?_) (fun f hf => by cases hf) hp
        obtain ⟨z, hz, rfl⟩ := List.mem_map.1 hy
        have := hsm z (by simp [hz])
        simpa using this
    · intro f hf
      cases hf
/-- A kind of the call's own is drawn, and a name. -/
def DrawsKd (w : World) (e : Ending) (w' : World) : Prop :=
  ∃ (T U : ByteArray) (v : Value) (l : List Pr) (n : ByteArray), e = .returned (.tuple #[.agg #[.string T, .string U, v], .string n]) ∧ PrsAt w' v l ∧ l.length ≤ 1000 ∧ (∀ f ∈ l, f.name.length ≤ 1000) ∧ n.size ≤ 100 ∧ Below w.heap.size w w'

set_option maxRecDepth 100000 in
set_option maxHeartbeats 2000000 in
theorem drawParamOf_any (K : Code) (w0 w : World) (hr : IsRow .u8 w0 K.a K.len K.cap K.zs) (hl : K.len ≤ 1048576) (hb : Below w0.heap.size w0 w) :
    Calls Tryd.prog 10 #[.slice K.a K.len K.cap] w (DrawsKd w) := by
  go_enter Tryd.func10, Tryd.ntmps10
  have N0 := Lib.hid (new_three w (.string ⟨#[]⟩) (.string ⟨#[]⟩) (.slice none 0 0) 27)
  have D0 : Below w.heap.size w (w.alloc (.cells #[.string ⟨#[]⟩, .string ⟨#[]⟩, .slice none 0 0] 27)) := (Below.refl _ _).alloc (Nat.le_refl _) _
  have hb2 := hb.trans (D0.mono hb.size)
  go_wp2_with fail
  obtain ⟨v0, hv0⟩ : ∃ x, w.alloc (.cells #[.string ⟨#[]⟩, .string ⟨#[]⟩, .slice none 0 0] 27) = x := ⟨_, rfl⟩
  rw [hv0] at N0 D0 hb2 ⊢
  clear hv0
  have B0 := Lib.hid D0
  clear D0
  refine (new_any K w0 v0 hr hl hb2).mono ?_
  rintro e w1 ⟨h1, rfl, hc1, hB1⟩
  have C1 := Lib.hid hc1
  have B1 := Lib.hid hB1
  have N1 := Lib.hid ((hB1.block _ (Array.getElem?_eq_some_iff.1 N0.out).1).trans N0.out)
  clear hc1 hB1
  go_wp2_with fail
  have hv0 : w.heap.size < v0.heap.size := (Array.getElem?_eq_some_iff.1 N0.out).1
  refine (pick_lit C1.out 100 (by decide) (by rfl) (by decide) (by decide)).mono ?_
  rintro e w2 ⟨s, i2, h2, rfl, hs, hc2, hg2⟩
  have C2 := Lib.hid hc2
  have B2 := Lib.hid (below_step B1.out hg2 (Nat.le_refl _))
  have N2 := Lib.hid ((hg2.block _ (Array.getElem?_eq_some_iff.1 N1.out).1 (fun e => by have := Option.some.inj e; omega)).trans N1.out)
  clear hc2 hg2
  have hkl := kdL_len s
  have hkn := kdL_names s
  have RK := Lib.hid ((specReadKind_any s w2 (by omega)).mono (fun e w' h => givesKd_one h))
  generalize kindOf s.data.toList = O at *
  generalize kdT O = T at *
  generalize kdU O = U at *
  generalize O.isSome = ok at *
  generalize kdL O = l at *
  go_wp2_with fail
  refine RK.out.mono ?_
  rintro e w3 ⟨v, rfl, hrow, hB3⟩
  obtain ⟨p, cap, rfl⟩ := row_slice hrow
  have E3 : Below w3.heap.size w3 (w3.alloc (.cells #[.string T, .string U, .slice p l.length cap] 27)) := (Below.refl _ _).alloc (Nat.le_refl _) _
  have M3 := Lib.hid (new_three w3 (.string T) (.string U) (.slice p l.length cap) 27)
  have F3 := hB3.trans (E3.mono hB3.size)
  have C3 := Lib.hid (C2.out.later F3)
  have N3 := Lib.hid ((F3.block _ (Array.getElem?_eq_some_iff.1 N2.out).1).trans N2.out)
  have B3 := Lib.hid (B2.out.trans (F3.mono B2.out.size))
  have R3 := Lib.hid (row_lat hrow E3)
  have hw3 := hB3.size
  clear hrow hB3 E3 F3 RK
  go_wp2_with fail
  obtain ⟨v3, hv3⟩ : ∃ x, w3.alloc (.cells #[.string T, .string U, .slice p l.length cap] 27) = x := ⟨_, rfl⟩
  rw [hv3] at M3 C3 N3 B3 R3 ⊢
  obtain ⟨A, hA⟩ : ∃ A, w3.heap.size = A := ⟨_, rfl⟩
  rw [hA] at M3 ⊢
  have hAg : v0.heap.size < A := by have := C2.out.lt; omega
  clear hv3
  obtain ⟨_, _, _⟩ := three_cells M3.out
  refine wp_region_noPanic (wp_region_held_drew (S := fun w' => w'.cell? ⟨A, 0, none⟩ = some (.string T) ∧ w'.cell? ⟨A, 1, none⟩ = some (.string U) ∧ w'.cell? ⟨A, 2, none⟩ = some (.slice p l.length cap)) (by kernel_rfl) ⟨by assumption, by assumption, by assumption⟩ (fun hHeld => ?_))
  refine take_on (i := 0) (some 16) ?_ rfl rfl (by kernel_rfl) (by kernel_rfl) (by kernel_rfl) (fun _ _ _ h => h) (by rfl) (by assumption) ?_ ?_
  rotate_left 2
  · intro wx hSx
    (try dsimp only at hSx)
    (try obtain ⟨_, _, _⟩ := hSx)
    go_simp
    try with_reducible rfl
  rotate_left
  simp only [Act.put, List.setIfInBounds_toArray, List.set_cons_zero, List.set_cons_succ]
  refine take_on (i := 1) (some 17) ?_ rfl rfl (by kernel_rfl) (by kernel_rfl) (by kernel_rfl) (fun _ _ _ h => h) (by rfl) (by assumption) ?_ ?_
  rotate_left 2
  · intro wx hSx
    (try dsimp only at hSx)
    (try obtain ⟨_, _, _⟩ := hSx)
    go_simp
    try with_reducible rfl
  rotate_left
  simp only [Act.put, List.setIfInBounds_toArray, List.set_cons_zero, List.set_cons_succ]
  refine wpAnyH_ready (rs := [2]) (by kernel_rfl) (by simp) (AllReadyH.cons rfl (fun K hK => ?_) AllReadyH.nil)
  rw [if_pos (by rfl)]
  go_simp
  have D4 : Below v3.heap.size v3 v3.drew := (Below.refl _ _).drew
  have C4 := Lib.hid (C3.out.later D4)
  change K _ (v3.drew.alloc (.cells #[.string ⟨#[99, 104, 97, 114, 115, 101, 116]⟩, .string ⟨#[120]⟩, .string ⟨#[89]⟩, .string ⟨#[110, 111, 110, 101]⟩] 9))
  have E4 := D4.alloc D4.size (.cells #[.string ⟨#[99, 104, 97, 114, 115, 101, 116]⟩, .string ⟨#[120]⟩, .string ⟨#[89]⟩, .string ⟨#[110, 111, 110, 101]⟩] 9)
  refine hK.out _ _ (three_cells ((E4.block _ (Array.getElem?_eq_some_iff.1 M3.out).1).trans M3.out)) (fun _ => ?_)
  clear hK hHeld E4
  refine wpAnyH_ready (rs := [3]) (by kernel_rfl) (by simp) (AllReadyH.cons rfl (fun K hK => ?_) AllReadyH.nil)
  rw [if_pos (by rfl)]
  go_simp
  refine (pick_lit C4.out 50 (by decide) (by rfl) (by decide) (by decide)).mono ?_
  rintro e w4 ⟨n, i4, h4, rfl, hn, hc4, hg4⟩
  have hM4 := (hg4.block A (Array.getElem?_eq_some_iff.1 M3.out).1 (fun e => by have := Option.some.inj e; omega)).trans M3.out
  have hN4 := (hg4.block w.heap.size (Array.getElem?_eq_some_iff.1 N3.out).1 (fun e => by have := Option.some.inj e; omega)).trans N3.out
  have B4 := Lib.hid (below_step (B3.out.trans (D4.mono B3.out.size)) hg4 (by omega))
  have R4 := Lib.hid ((row_lat R3.out D4).kept hg4 (by
    cases hv : (Value.slice p l.length cap).ownBlock with
    | none => exact .inl rfl
    | some k => exact .inr (fun e => by have h1 := (R3.out.lt k hv).1; have h2 := C2.out.lt; injection e with e; omega)))
  have hne : A ≠ w.heap.size := by have h1 := C2.out.lt; omega
  have M6 := Lib.hid hM4
  have N6 := Lib.hid hN4
  clear hM4 hN4 hc4 hg4 D4 C4 C3
  obtain ⟨_, _, _⟩ := three_cells M6.out
  obtain ⟨_, _, _⟩ := three_cells N6.out
  obtain ⟨_, _, _⟩ := three_free N6.out
  refine hK.out _ _ (three_cells M6.out) (fun hHeld => ?_)
  clear hK
  refine wpAnyH_ready (rs := [4]) (by kernel_rfl) (by simp) (AllReadyH.cons rfl (fun K hK => ?_) AllReadyH.nil)
  rw [if_pos (by rfl)]
  go_simp
  have hM : ((((w4.setCell ⟨w.heap.size, 0, none⟩ (.string T)).setCell ⟨w.heap.size, 1, none⟩ (.string U)).setCell ⟨w.heap.size, 2, none⟩ (.slice p l.length cap))).heap[A]? = _ := ((heap_setCell_other _ _ _ _ hne).trans ((heap_setCell_other _ _ _ _ hne).trans ((heap_setCell_other _ _ _ _ hne).trans M6.out)))
  refine hK.out _ _ (three_cells hM) (fun hHeld => ?_)
  clear hK hM
  refine take_on (i := 5) (some 3) ?_ rfl rfl (by kernel_rfl) (by kernel_rfl) (by kernel_rfl) (fun _ _ _ h => h) (by rfl) (by assumption) ?_ ?_
  rotate_left 2
  · intro wx hSx
    (try dsimp only at hSx)
    (try obtain ⟨_, _, _⟩ := hSx)
    go_simp
    try with_reducible rfl
  rotate_left
  simp only [Act.put, List.setIfInBounds_toArray, List.set_cons_zero, List.set_cons_succ]
  refine wpAnyH_done (by kernel_rfl) ?_ _
  refine NoPanic.normal ?_
  go_wp2_with fail
  have hq := three_cells (set_three N6.out (.string T) (.string U) (.slice p l.length cap))
  refine bodyPost_ret (v := .tuple #[.agg #[.string T, .string U, .slice p l.length cap], .string n]) (by simp [results, Tryd.results10, go_sem, hq.1, hq.2.1, hq.2.2]) rfl ⟨T, U, _, l, n, rfl, ?_, by omega, fun f hf => by have := hkn f hf; omega, by omega, below_three (B0.out.trans (B4.out.mono B0.out.size)) (Nat.le_refl _) _ _ _⟩
  have hr : ∀ k, (Value.slice p l.length cap).ownBlock = some k → k ≠ w.heap.size := fun k e => by have h1 := (R4.out.lt k e).1; have h2 := C2.out.lt; omega
  exact prs_of_row (ownsRow_setCell_other (ownsRow_setCell_other (ownsRow_setCell_other R4.out (fun e => hr _ e rfl) _) (fun e => hr _ e rfl) _) (fun e => hr _ e rfl) _)
end Go.Proofs.YtjleadlecdcdeaaDoor

/-
  Kinds: the walk of the laws' sameKind where they are alike.
-/
namespace Go.Proofs.YtjleadlecdcdeaaDoor
set_option linter.unusedVariables false
open Go.RowKit

theorem below_drewKd {B : Nat} {a b : World} (h : Below B a b) (n : Nat) : Below B a (b.drewN n) := ⟨h.os, h.tape, h.output, h.size, h.block⟩

set_option maxRecDepth 100000 in
set_option maxHeartbeats 1000000 in
theorem sameKd_yes (T U : ByteArray) (va vb : Value) (l : List Pr) (w : World) (ha : PrsAt w va l) (hb : PrsAt w vb l) (hl : l.length ≤ 4294967296) :
    Calls Tryd.prog 9 #[.agg #[.string T, .string U, va], .agg #[.string T, .string U, vb]] w fun e w' => e = .returned (.bool true) ∧ Below w.heap.size w w' := by
  obtain ⟨pa, ca, rfl⟩ := ha.slice
  obtain ⟨pb, cb, rfl⟩ := hb.slice
  have D1 : Below w.heap.size w ((w.alloc (.cells #[.string T, .string U, .slice pa l.length ca] 27)).alloc (.cells #[.string T, .string U, .slice pb l.length cb] 27)) := ((Below.refl _ _).alloc (Nat.le_refl _) _).alloc (by simp) _
  have N1 := Lib.hid (new_three (w.alloc (.cells #[.string T, .string U, .slice pa l.length ca] 27)) (.string T) (.string U) (.slice pb l.length cb) 27)
  have N0 := Lib.hid ((Below.heap_alloc (w.alloc (.cells #[.string T, .string U, .slice pa l.length ca] 27)) (.cells #[.string T, .string U, .slice pb l.length cb] 27) w.heap.size (by simp)).trans (new_three w (.string T) (.string U) (.slice pa l.length ca) 27))
  rw [World.size_alloc] at N1
  have HCA := Lib.hid (ha.later D1 (Nat.le_refl _))
  have HCB := Lib.hid (hb.later D1 (Nat.le_refl _))
  have B1 := Lib.hid D1
  clear ha hb D1
  go_enter Tryd.func9, Tryd.ntmps9
  obtain ⟨_, _, _⟩ := three_cells N0.out
  obtain ⟨_, _, _⟩ := three_cells N1.out
  go_wp2_with fail
  obtain ⟨wb, hwb⟩ : ∃ x, (w.alloc (.cells #[.string T, .string U, .slice pa l.length ca] 27)).alloc (.cells #[.string T, .string U, .slice pb l.length cb] 27) = x := ⟨_, rfl⟩
  rw [hwb] at N0 N1 HCA HCB B1 ⊢
  clear hwb
  go_loopw [5] (fun i wr => ∃ k : Nat, k ≤ l.length ∧ i = .int .i64 k ∧ Hid (Below wb.heap.size wb wr)) (fun i _ => l.length - (intOf i).toNat)
  case atStart => exact ⟨0, Nat.zero_le _, rfl, Lib.hid (Below.refl _ _)⟩
  case round =>
    obtain ⟨k, hk, rfl, HQ⟩ := hrel
    obtain ⟨_, _, _⟩ := three_cells ((HQ.out.block _ (Array.getElem?_eq_some_iff.1 N0.out).1).trans N0.out)
    obtain ⟨_, _, _⟩ := three_cells ((HQ.out.block _ (Array.getElem?_eq_some_iff.1 N1.out).1).trans N1.out)
    by_cases hlt : k < l.length
    · rcases HCA.out with ⟨h, _⟩ | ⟨ga, oa, ca', hva, hga, hca⟩
      · rw [h] at hlt; exact absurd hlt (by simp)
      rcases HCB.out with ⟨h, _⟩ | ⟨gb, ob, cb', hvb, hgb, hcb⟩
      · rw [h] at hlt; exact absurd hlt (by simp)
      injection hva with a1 a2 a3
      injection hvb with b1 b2 b3
      subst a1 b1
      obtain ⟨x1, x2⟩ := hca k hlt
      obtain ⟨y1, y2⟩ := hcb k hlt
      rw [← HQ.out.cell (p := ⟨ga, oa + k * 2, none⟩) hga] at x1
      rw [← HQ.out.cell (p := ⟨gb, ob + k * 2, none⟩) hgb] at y1
      rw [← HQ.out.cell (p := ⟨ga, oa + k * 2 + 1, none⟩) hga] at x2
      rw [← HQ.out.cell (p := ⟨gb, ob + k * 2 + 1, none⟩) hgb] at y2
      have i1 : (0 : Int) ≤ (k : Int) := by omega
      have i2 : (k : Int) < (l.length : Int) := by omega
      generalize mkB l[k].name = s0 at x1 y1
      generalize mkB l[k].value = s1 at x2 y2
      have hgaw : ga < wr.heap.size := by have := HQ.out.size; omega
      have hgbw : gb < wr.heap.size := by have := HQ.out.size; omega
      clear hca hcb a2 a3 b2 b3
      go_wp2_with fail
      go_quiet (fail)
      go_wp2_with fail
      go_roundw
      case rel => exact ⟨k + 1, by omega, by go_num, Lib.hid (below_drewKd HQ.out _)⟩
      case measure => simp [intOf]; omega
    · obtain rfl : k = l.length := by omega
      go_wp2_with fail
      go_ret
      exact ⟨rfl, B1.out.trans (HQ.out.mono B1.out.size)⟩
end Go.Proofs.YtjleadlecdcdeaaDoor

/-
  The walks of Same, and of the exact law on it.
-/
namespace Go.Proofs.YtjleadlecdcdeaaDoor
set_option linter.unusedVariables false
open Go.RowKit

def sameB (a b : List UInt8) : Bool := upS a == upS b

set_option maxHeartbeats 400000 in
theorem specSame_any (a b : ByteArray) (w : World) (ha : a.size ≤ maxLen) (hb : b.size ≤ maxLen) :
    Calls Tryd.prog 31 #[.string a, .string b] w fun e w' => e = .returned (.bool (sameB a.data.toList b.data.toList)) ∧ Below w.heap.size w w' := by
  have HA := Lib.hid ha
  have HB := Lib.hid hb
  clear ha hb
  go_enter Tryd.func31, Tryd.ntmps31
  go_wp2_with fail
  refine (specUpper_any _ _ HA.out).mono ?_
  rintro e w1 ⟨rfl, hB1⟩
  go_wp2_with fail
  refine (specUpper_any _ _ HB.out).mono ?_
  rintro e w2 ⟨rfl, hB2⟩
  go_wp2_with fail
  go_ret
  exact ⟨rfl, hB1.trans (hB2.mono hB1.size)⟩

set_option maxHeartbeats 400000 in
theorem implSame_any (a b : ByteArray) (w : World) (ha : a.size ≤ maxLen) (hb : b.size ≤ maxLen) :
    Calls Tryd.prog 30 #[.string a, .string b] w fun e w' => e = .returned (.bool (sameB a.data.toList b.data.toList)) ∧ Below w.heap.size w w' := by
  have HA := Lib.hid ha
  have HB := Lib.hid hb
  clear ha hb
  go_enter Tryd.func30, Tryd.ntmps30
  go_wp2_with fail
  refine (implUpper_any _ _ HA.out).mono ?_
  rintro e w1 ⟨rfl, hB1⟩
  go_wp2_with fail
  refine (implUpper_any _ _ HB.out).mono ?_
  rintro e w2 ⟨rfl, hB2⟩
  go_wp2_with fail
  go_ret
  exact ⟨rfl, hB1.trans (hB2.mono hB1.size)⟩
end Go.Proofs.YtjleadlecdcdeaaDoor

/-
  Kinds: plain, and the walk of spec's ParamOf.
-/
namespace Go.Proofs.YtjleadlecdcdeaaDoor
set_option linter.unusedVariables false
open Go.RowKit

def paramAt (name : List UInt8) : List Pr → Option (List UInt8)
  | [] => none
  | f :: r => if sameB f.name name then some f.value else paramAt name r
/-- What ParamOf tells. -/
def poV (b : Option (List UInt8)) : Value := match b with
  | none => .tuple #[.string ⟨#[]⟩, .bool false]
  | some x => .tuple #[.string (mkB x), .bool true]
theorem paramAt_drop (name : List UInt8) (l : List Pr) (k : Nat) (h : k < l.length) : paramAt name (l.drop k) = if sameB l[k].name name then some l[k].value else paramAt name (l.drop (k + 1)) := by
  rw [List.drop_eq_getElem_cons h, paramAt]

set_option maxRecDepth 100000 in
set_option maxHeartbeats 1000000 in
theorem specParamOf_any (T U : ByteArray) (v : Value) (l : List Pr) (s : ByteArray) (w : World) (hv : PrsAt w v l) (hs : s.size ≤ maxLen) (hx : ∀ f ∈ l, f.name.length ≤ maxLen) (hl : l.length ≤ 16777216) :
    Calls Tryd.prog 12 #[.agg #[.string T, .string U, v], .string s] w fun e w' => e = .returned (poV (paramAt s.data.toList l)) ∧ Below w.heap.size w w' := by
  obtain ⟨R, hR⟩ : ∃ R, paramAt s.data.toList l = R := ⟨_, rfl⟩
  rw [hR]
  have HR : Hid (paramAt s.data.toList (l.drop 0) = R) := Lib.hid (by rw [List.drop_zero, hR])
  obtain ⟨p, cap, rfl⟩ := hv.slice
  have HV := Lib.hid hv
  have HX := Lib.hid hx
  have HS := Lib.hid hs
  have HB := Lib.hid (new_three w (.string T) (.string U) (.slice p l.length cap) 27)
  clear hv hx hs hR
  go_enter Tryd.func12, Tryd.ntmps12
  go_wp2
  obtain ⟨wb, hwb⟩ : ∃ x, w.alloc (.cells #[.string T, .string U, .slice p l.length cap] 27) = x := ⟨_, rfl⟩
  have HB0 : Hid (Below w.heap.size w wb) := Lib.hid (by rw [← hwb]; exact (Below.refl _ _).alloc (Nat.le_refl _) _)
  rw [hwb] at HB ⊢
  clear hwb
  go_loopw [6] (fun i wr => ∃ k : Nat, k ≤ l.length ∧ i = .int .i64 k ∧ Hid (paramAt s.data.toList (l.drop k) = R) ∧ Hid (Below wb.heap.size wb wr)) (fun i _ => l.length - (intOf i).toNat)
  case atStart => exact ⟨0, Nat.zero_le _, rfl, HR, Lib.hid (Below.refl _ _)⟩
  case round =>
    obtain ⟨k, hk, rfl, HP, hB⟩ := hrel
    have hbox := (hB.out.block _ (Array.getElem?_eq_some_iff.1 HB.out).1).trans HB.out
    obtain ⟨_, _, hc2⟩ := three_cells hbox
    have BR := Lib.hid (HB0.out.trans (hB.out.mono HB0.out.size))
    clear hbox
    by_cases hlt : k < l.length
    · have g1 : decide ((k : Int) < (l.length : Int)) = true := by simp; omega
      have i1 : (0 : Int) ≤ (k : Int) := by omega
      have i2 : (k : Int) < (l.length : Int) := by omega
      obtain ⟨g, off, hgl, hg, x1, x2⟩ : ∃ g off, p = some ⟨g, off, none⟩ ∧ g < wr.heap.size ∧ wr.cell? ⟨g, off + k * 2, none⟩ = some (.string (mkB l[k].name)) ∧ wr.cell? ⟨g, off + k * 2 + 1, none⟩ = some (.string (mkB l[k].value)) := by
        rcases HV.out.later BR.out (Nat.le_refl _) with ⟨h, _⟩ | ⟨g, o, c, h1, h2, h3⟩
        · rw [h] at hlt; simp at hlt
        · injection h1 with e1 _ _
          exact ⟨g, o, e1, h2, h3 k hlt⟩
      subst hgl
      have hP := HP.out
      rw [paramAt_drop _ _ _ hlt] at hP
      have hxn := HX.out _ (List.getElem_mem hlt)
      have SA := Lib.hid (fun w => specSame_any (mkB l[k].name) s w (by rw [mkB_size]; exact hxn) HS.out)
      rw [mkB_list] at SA
      generalize hq : sameB l[k].name s.data.toList = q at SA hP
      generalize mkB l[k].name = nm at x1 SA
      cases q with
      | false =>
        rw [if_neg (by simp)] at hP
        have HP2 := Lib.hid hP
        clear hP HP hq hxn
        go_wp2_with (go_at_call 31; refine (SA.out _).mono ?_; rintro e w3 ⟨rfl, hB3⟩)
        have B3 := Lib.hid (hB.out.trans (hB3.mono hB.out.size))
        clear hB3
        go_roundw
        case rel => exact ⟨k + 1, by omega, by go_num, HP2, B3⟩
        case measure => simp [intOf]; omega
      | true =>
        rw [if_pos rfl] at hP
        have HF := Lib.hid hP
        clear hP HP hq hxn
        go_wp2_with (go_at_call 31; refine (SA.out _).mono ?_; rintro e w3 ⟨rfl, hB3⟩; have z2 : w3.cell? ⟨g, off + k * 2 + 1, none⟩ = some (.string (mkB l[k].value)) := (hB3.cell (p := ⟨g, off + k * 2 + 1, none⟩) hg).trans x2; have z3 : w3.cell? ⟨w.heap.size, 2, none⟩ = some (.slice (some ⟨g, off, none⟩) l.length cap) := (hB3.cell (p := ⟨w.heap.size, 2, none⟩) (block_lt_of_cell hc2)).trans hc2; have B3 := Lib.hid (BR.out.trans (hB3.mono BR.out.size)); clear hB3)
        go_ret2
        exact ⟨by rw [← HF.out]; rfl, B3.out⟩
    · obtain rfl : k = l.length := by omega
      have g1 : decide ((l.length : Int) < (l.length : Int)) = false := by simp
      have HF : Hid (R = none) := Lib.hid (by rw [← HP.out, List.drop_length]; rfl)
      clear HP
      go_wp2_with fail
      go_ret2
      exact ⟨by rw [HF.out]; rfl, BR.out⟩
end Go.Proofs.YtjleadlecdcdeaaDoor

/-
  Kinds: one parameter more. Plain.
-/
namespace Go.Proofs.YtjleadlecdcdeaaDoor
set_option linter.unusedVariables false
open Go.RowKit

theorem app_list (s u : ByteArray) : (s ++ u).data.toList = s.data.toList ++ u.data.toList := by rw [ByteArray.data_append, Array.toList_append]
theorem extract_app (s u : ByteArray) (a k : Nat) (hk : k ≤ s.size) : (s ++ u).extract a k = s.extract a k := by
  apply ByteArray.ext
  apply Array.ext'
  rw [Lib.extract_data, Lib.extract_data, app_list]
  have hl : s.data.toList.length = s.size := by simp
  by_cases h : a ≤ s.data.toList.length
  · rw [List.drop_append_of_le_length h, List.take_append_of_le_length (by rw [List.length_drop]; omega)]
  · rw [show k - a = 0 by omega]
    simp
theorem occB_app (s u : ByteArray) (b : UInt8) (k : Nat) (hk : k < s.size) : occB (s ++ u) b k = occB s b k := by
  have hl : s.data.toList.length = s.size := by simp
  unfold occB
  rw [app_list, List.getElem?_append_left (by omega)]
theorem spF_app (s u : ByteArray) (b : UInt8) : ∀ k, k ≤ s.size → spF (s ++ u) b k = spF s b k
  | 0, _ => rfl
  | k + 1, hk => by
    have ih := spF_app s u b k (by omega)
    rw [spF, spF, ih, occB_app s u b k (by omega), extract_app s u _ k (by omega)]
theorem extract_tail (s t : ByteArray) (b : UInt8) : (s ++ (one b ++ t)).extract (s.size + 1) (s ++ (one b ++ t)).size = t := by
  have hl : s.data.toList.length = s.size := by simp
  apply ByteArray.ext
  apply Array.ext'
  rw [Lib.extract_to_end, app_list, app_list, List.drop_append, hl]
  have h1 : s.data.toList.drop (s.size + 1) = [] := List.drop_eq_nil_of_le (by omega)
  rw [h1, show s.size + 1 - s.size = 1 by omega]
  rfl
theorem splitAll_app (s t : ByteArray) (b : UInt8) (ht : ∀ x ∈ t.data.toList, x ≠ b) : splitAll (s ++ (one b ++ t)) b = splitAll s b ++ [t] := by
  have hl : s.data.toList.length = s.size := by simp
  have htl : t.data.toList.length = t.size := by simp
  have hsz : (s ++ (one b ++ t)).size = s.size + 1 + t.size := by
    rw [ByteArray.size_append, ByteArray.size_append]
    show s.size + (1 + t.size) = _
    omega
  have h1 : occB (s ++ (one b ++ t)) b s.size = true := by
    unfold occB
    rw [app_list, List.getElem?_append_right (by omega), hl, Nat.sub_self, app_list]
    show (some b == some b) = true
    simp
  have h2 : spF (s ++ (one b ++ t)) b (s.size + 1) = (splitAll s b, s.size + 1) := by
    rw [spF_yes h1, spF_app s _ b _ (Nat.le_refl _), extract_app s _ _ _ (Nat.le_refl _)]
    rfl
  have h3 : ∀ d, d ≤ t.size → spF (s ++ (one b ++ t)) b (s.size + 1 + d) = (splitAll s b, s.size + 1) := by
    intro d
    induction d with
    | zero => intro _; exact h2
    | succ d ih =>
      intro hd
      have hno : occB (s ++ (one b ++ t)) b (s.size + 1 + d) = false := by
        unfold occB
        rw [app_list, List.getElem?_append_right (by omega), hl, app_list, show s.size + 1 + d - s.size = d + 1 by omega]
        show (t.data.toList[d]? == some b) = false
        rw [List.getElem?_eq_getElem (by omega), beq_eq_false_iff_ne]
        intro e
        exact ht _ (List.getElem_mem _) (Option.some.inj e)
      rw [show s.size + 1 + (d + 1) = (s.size + 1 + d) + 1 by omega, spF_no hno]
      exact ih (by omega)
  have h4 := h3 t.size (Nat.le_refl _)
  rw [← hsz] at h4
  unfold splitAll at *
  rw [h4]
  simp only
  rw [extract_tail]
/-- The text that a kind is followed by. -/
def moreT : ByteArray := ⟨#[32, 122, 122, 61, 34, 113, 32, 114, 34]⟩
def moreP : Pr := ⟨[90, 90], [113, 32, 114]⟩
theorem more_param : paramOf moreT.data.toList = some moreP := by kernel_rfl
theorem more_trim : Lib.trimS moreT.data.toList [32, 9] ≠ [] := by decide
theorem paramsA_snoc (x : List UInt8) (p : Pr) (h1 : Lib.trimS x [32, 9] ≠ []) (h2 : paramOf x = some p) : ∀ (L : List (List UInt8)) (acc l : List Pr), paramsA acc L = some l → paramsA acc (L ++ [x]) = some (l ++ [p])
  | [], acc, l, h => by
    injection h with h
    subst h
    show paramsA acc [x] = _
    rw [paramsA, if_neg h1, h2]
    rfl
  | y :: r, acc, l, h => by
    rw [paramsA] at h
    rw [List.cons_append, paramsA]
    split at h
    · rename_i hy
      rw [if_pos hy]
      exact paramsA_snoc x p h1 h2 r acc l h
    · rename_i hy
      rw [if_neg hy]
      cases hp : paramOf y with
      | none => rw [hp] at h; cases h
      | some q =>
        rw [hp] at h
        exact paramsA_snoc x p h1 h2 r (acc ++ [q]) l h
theorem kindOf_more (s : ByteArray) (k : Kd) (h : kindOf s.data.toList = some k) : kindOf (s ++ (one 59 ++ moreT)).data.toList = some ⟨k.type, k.sub, k.params ++ [moreP]⟩ := by
  unfold kindOf semis at h ⊢
  rw [show mkB s.data.toList = s from rfl] at h
  rw [show mkB (s ++ (one 59 ++ moreT)).data.toList = s ++ (one 59 ++ moreT) from rfl, splitAll_app s moreT 59 (by decide)]
  cases hL : splitAll s 59 with
  | nil => rw [hL] at h; cases h
  | cons x r =>
    rw [hL] at h
    simp only [List.map_cons, List.cons_append, List.map_append, List.map_nil] at h ⊢
    split at h
    · rename_i hc
      rw [if_pos hc]
      cases hp : paramsA [] (r.map (fun b => b.data.toList)) with
      | none => rw [hp] at h; cases h
      | some l =>
        rw [hp] at h
        rw [paramsA_snoc _ _ more_trim more_param _ _ _ hp]
        have := Option.some.inj h
        subst this
        rfl
    · cases h
theorem upB_up (b : UInt8) : upB (upB b) = upB b := by
  apply UInt8.toNat_inj.1
  have h1 := upB_nat b
  have h2 := upB_nat (upB b)
  rw [h2]
  split at h1
  · rw [if_neg (by omega)]
  · rw [if_neg (by omega)]
theorem upS_up (l : List UInt8) : upS (upS l) = upS l := by
  unfold upS
  rw [List.map_map]
  exact List.map_congr_left (fun b _ => upB_up b)
theorem kind_great (s : List UInt8) (k : Kd) (h : kindOf s = some k) : upS k.type = k.type ∧ upS k.sub = k.sub ∧ k.type ≠ [] ∧ k.sub ≠ [] ∧ k.type.length ≤ s.length ∧ k.sub.length ≤ s.length := by
  have hsm := split_small (mkB s) 59
  unfold kindOf semis at h
  cases hL : splitAll (mkB s) 59 with
  | nil => rw [hL] at h; cases h
  | cons x r =>
    rw [hL] at h hsm
    simp only [List.map_cons] at h
    split at h
    · rename_i hc
      cases hp : paramsA [] (r.map (fun b => b.data.toList)) with
      | none => rw [hp] at h; cases h
      | some l =>
        rw [hp] at h
        have := Option.some.inj h
        subst this
        have hx := hsm x (by simp)
        rw [mkB_size] at hx
        have hxl : x.data.toList.length = x.size := by simp
        have hcl := cutT_len 47 x.data.toList
        have ne : ∀ l : List UInt8, tokL l = true → upS l ≠ [] := fun l hl e => by
          cases l with
          | nil => cases hl
          | cons a r => cases e
        refine ⟨upS_up _, upS_up _, ne _ hc.2.1, ne _ hc.2.2, ?_, ?_⟩
        · show (upS _).length ≤ _
          unfold upS
          rw [List.length_map]
          omega
        · show (upS _).length ≤ _
          unfold upS
          rw [List.length_map]
          omega
    · cases h
theorem more_at : ∀ l : List Pr, ∃ v, paramAt [90, 90] (l ++ [moreP]) = some v ∧ (l = [] → v = [113, 32, 114])
  | [] => ⟨_, rfl, fun _ => rfl⟩
  | f :: r => by
    obtain ⟨v, hv, _⟩ := more_at r
    rw [List.cons_append, paramAt]
    cases hs : sameB f.name [90, 90] with
    | true => exact ⟨f.value, by simp, fun e => by cases e⟩
    | false => exact ⟨v, by simpa using hv, fun e => by cases e⟩
end Go.Proofs.YtjleadlecdcdeaaDoor

/-
  Kinds: the walk of impl's ParamOf, and the exact law on it.
-/
namespace Go.Proofs.YtjleadlecdcdeaaDoor
set_option linter.unusedVariables false
open Go.RowKit

set_option maxRecDepth 100000 in
set_option maxHeartbeats 1000000 in
theorem implParamOf_any (T U : ByteArray) (v : Value) (l : List Pr) (s : ByteArray) (w : World) (hv : PrsAt w v l) (hs : s.size ≤ maxLen) (hx : ∀ f ∈ l, f.name.length ≤ maxLen) (hl : l.length ≤ 16777216) :
    Calls Tryd.prog 11 #[.agg #[.string T, .string U, v], .string s] w fun e w' => e = .returned (poV (paramAt s.data.toList l)) ∧ Below w.heap.size w w' := by
  obtain ⟨R, hR⟩ : ∃ R, paramAt s.data.toList l = R := ⟨_, rfl⟩
  rw [hR]
  have HR : Hid (paramAt s.data.toList (l.drop 0) = R) := Lib.hid (by rw [List.drop_zero, hR])
  obtain ⟨p, cap, rfl⟩ := hv.slice
  have HV := Lib.hid hv
  have HX := Lib.hid hx
  have HS := Lib.hid hs
  have HB := Lib.hid (new_three w (.string T) (.string U) (.slice p l.length cap) 27)
  clear hv hx hs hR
  go_enter Tryd.func11, Tryd.ntmps11
  go_wp2_with fail
  obtain ⟨wb, hwb⟩ : ∃ x, w.alloc (.cells #[.string T, .string U, .slice p l.length cap] 27) = x := ⟨_, rfl⟩
  have HB0 : Hid (Below w.heap.size w wb) := Lib.hid (by rw [← hwb]; exact (Below.refl _ _).alloc (Nat.le_refl _) _)
  rw [hwb] at HB ⊢
  clear hwb
  go_loopw [11] (fun i wr => ∃ k : Nat, k ≤ l.length ∧ i = .int .i64 k ∧ Hid (paramAt s.data.toList (l.drop k) = R) ∧ Hid (Below wb.heap.size wb wr)) (fun i _ => l.length - (intOf i).toNat)
  case atStart => exact ⟨0, Nat.zero_le _, rfl, HR, Lib.hid (Below.refl _ _)⟩
  case round =>
    obtain ⟨k, hk, rfl, HP, hB⟩ := hrel
    have BR := Lib.hid (HB0.out.trans (hB.out.mono HB0.out.size))
    by_cases hlt : k < l.length
    · have g1 : decide ((k : Int) < (l.length : Int)) = true := by simp; omega
      have i1 : (0 : Int) ≤ (k : Int) := by omega
      have i2 : (k : Int) < (l.length : Int) := by omega
      obtain ⟨g, off, hgl, hg, x1, x2⟩ : ∃ g off, p = some ⟨g, off, none⟩ ∧ g < wr.heap.size ∧ wr.cell? ⟨g, off + k * 2, none⟩ = some (.string (mkB l[k].name)) ∧ wr.cell? ⟨g, off + k * 2 + 1, none⟩ = some (.string (mkB l[k].value)) := by
        rcases HV.out.later BR.out (Nat.le_refl _) with ⟨h, _⟩ | ⟨g, o, c, h1, h2, h3⟩
        · rw [h] at hlt; simp at hlt
        · injection h1 with e1 _ _
          exact ⟨g, o, e1, h2, h3 k hlt⟩
      subst hgl
      have hP := HP.out
      rw [paramAt_drop _ _ _ hlt] at hP
      have hxn := HX.out _ (List.getElem_mem hlt)
      have SA := Lib.hid (fun w => implSame_any (mkB l[k].name) s w (by rw [mkB_size]; exact hxn) HS.out)
      rw [mkB_list] at SA
      generalize hq : sameB l[k].name s.data.toList = q at SA hP
      generalize mkB l[k].name = nm at x1 SA
      generalize hvl : mkB l[k].value = vl at x2
      have HVL := Lib.hid hvl
      clear hvl
      have HN := Lib.hid (alloc_new wr #[.string nm, .string vl] 45)
      have HW : Hid (Below wb.heap.size wb (wr.alloc (.cells #[.string nm, .string vl] 45))) := Lib.hid (hB.out.alloc hB.out.size _)
      cases q with
      | false =>
        rw [if_neg (by simp)] at hP
        have HP2 := Lib.hid hP
        clear hP HP hq hxn
        go_wp2_with (go_at_call 30; refine (SA.out _).mono ?_; rintro e w3 ⟨rfl, hB3⟩)
        have B3 := Lib.hid (HW.out.trans (hB3.mono HW.out.size))
        clear hB3
        go_roundw
        case rel => exact ⟨k + 1, by omega, by go_num, HP2, B3⟩
        case measure => simp [intOf]; omega
      | true =>
        rw [if_pos rfl] at hP
        have HF := Lib.hid hP
        clear hP HP hq hxn
        go_wp2_with (go_at_call 30; refine (SA.out _).mono ?_; rintro e w3 ⟨rfl, hB3⟩; obtain ⟨_, _⟩ := cell_of_two ((hB3.block _ (Array.getElem?_eq_some_iff.1 HN.out).1).trans HN.out); have B3 := Lib.hid (HB0.out.trans ((HW.out.trans (hB3.mono HW.out.size)).mono HB0.out.size)); clear hB3)
        go_ret2
        exact ⟨by rw [← HF.out, ← HVL.out]; rfl, B3.out⟩
    · obtain rfl : k = l.length := by omega
      have g1 : decide ((l.length : Int) < (l.length : Int)) = false := by simp
      have HF : Hid (R = none) := Lib.hid (by rw [← HP.out, List.drop_length]; rfl)
      clear HP
      go_wp2_with fail
      go_ret2
      exact ⟨by rw [HF.out]; rfl, BR.out⟩
end Go.Proofs.YtjleadlecdcdeaaDoor

/-
  The laws' own test on the code's length; what a draw may hand back.
-/
namespace Go.Proofs.YtjleadlecdcdeaaDoor
set_option linter.unusedVariables false
open Go.RowKit

/-- Two texts of at most m bytes are drawn. -/
def DrawsTwo (m : Nat) (w : World) (e : Ending) (w' : World) : Prop := ∃ s t : ByteArray, e = .returned (.tuple #[.string s, .string t]) ∧ s.size ≤ m ∧ t.size ≤ m ∧ Below w.heap.size w w'

set_option maxHeartbeats 400000 in
theorem big_no (a : Option Addr) (len cap : Nat) (w : World) (hl : len ≤ 1048576) :
    Calls Tryd.prog 5 #[.slice a len cap] w fun e w' => e = .returned (.bool false) ∧ w' = w := by
  have h1 : decide ((1048576 : Int) < (len : Int)) = false := by simp; omega
  go_enter Tryd.func5, Tryd.ntmps5
  go_wp2
  go_ret
  exact ⟨rfl, rfl⟩
set_option maxHeartbeats 400000 in
theorem big_yes (a : Option Addr) (len cap : Nat) (w : World) (hl : 1048576 < len) :
    Calls Tryd.prog 5 #[.slice a len cap] w fun e w' => e = .returned (.bool true) ∧ w' = w := by
  have h1 : decide ((1048576 : Int) < (len : Int)) = true := by simp; omega
  go_enter Tryd.func5, Tryd.ntmps5
  go_wp2
  go_ret
  exact ⟨rfl, rfl⟩

end Go.Proofs.YtjleadlecdcdeaaDoor
