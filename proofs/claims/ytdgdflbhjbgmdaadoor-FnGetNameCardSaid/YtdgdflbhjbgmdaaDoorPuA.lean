/-
  A sign in its bytes: the walks of spec's l02Six and l02Put.
-/
import Derived.Test.YtdgdflbhjbgmdaaDoorRow
import Derived.Test.YtdgdflbhjbgmdaaDoorIn
import Derived.WalkKit
import Derived.WalkSpells
import Derived.Lib.Hide
namespace Go.Proofs.YtdgdflbhjbgmdaaDoor
set_option linter.unusedVariables false
open Go.RowKit

/-- A byte of the lowest six bits. -/
def six (n : Nat) : UInt8 := UInt8.ofNat (128 + n % 64)
/-- A sign in its bytes; none where there is none. -/
def putL (r : Nat) : List UInt8 :=
  if 1114111 < r ∨ (55296 ≤ r ∧ r ≤ 57343) then [] else
  if r < 128 then [UInt8.ofNat r] else
  if r < 2048 then [UInt8.ofNat (192 + r / 64), six r] else
  if r < 65536 then [UInt8.ofNat (224 + r / 4096), six (r / 64), six r] else
  [UInt8.ofNat (240 + r / 262144), six (r / 4096), six (r / 64), six r]

set_option maxHeartbeats 400000 in
theorem six_any (n : Nat) (w : World) (hn : n ≤ 1000000000000) :
    Calls Tryd.prog 51 #[.int .i64 n] w fun e w' => e = .returned (.int .u8 ((six n).toNat : Int)) ∧ w' = w := by
  have e : Value.int .u8 ((six n).toNat : Int) = .int .u8 (128 + (n : Int) % 64) := by
    unfold six
    rw [UInt8.toNat_ofNat']
    congr 1
    rw [Nat.mod_eq_of_lt (by omega)]
    omega
  rw [e]
  clear e
  go_enter Tryd.func51, Tryd.ntmps51
  go_wp2
  go_ret
  exact ⟨rfl, rfl⟩

/-- A literal of bytes, turned to a string. -/
theorem lit_back {P : Program} (w : World) (T src dst : TypeId) (l : List UInt8) (cs : List Value) (n : Nat) (h : cs = l.map bv) (hn : n = l.length) (hs : P.underlying src = some (.slice T)) (he : P.underlying T = some (.int .u8)) (hd : P.underlying dst = some .string) :
    (convert src dst (.slice (some ⟨w.heap.size, 0, none⟩) n n)).run P (w.alloc (.cells cs.toArray T)) = .ok (.string ⟨l.toArray⟩) (w.alloc (.cells cs.toArray T)) := by
  subst h
  have hb : Buf (w.alloc (.cells (l.map bv).toArray T)) w.heap.size T l :=
    ⟨_, 0, 0, heap_alloc_new _ _, .inr (Nat.le_refl _), fun j hj => by
      rw [List.getElem?_toArray, List.getElem?_map, List.getElem?_eq_getElem hj, List.getD_eq_getElem?_getD, List.getElem?_eq_getElem hj]
      rfl⟩
  exact hb.back src dst T n n hn hs he hd
theorem bv_nat (n : Nat) (h : n < 256) : bv (UInt8.ofNat n) = .int .u8 (n : Int) := by
  unfold bv
  rw [UInt8.toNat_ofNat', Nat.mod_eq_of_lt h]

set_option maxRecDepth 100000 in
set_option maxHeartbeats 1000000 in
theorem put_any (r : Nat) (w : World) (hn : r ≤ 1000000000000) :
    Calls Tryd.prog 42 #[.int .i64 r] w fun e w' => e = .returned (.string ⟨(putL r).toArray⟩) ∧ Below w.heap.size w w' := by
  have hr0 : decide ((r : Int) < 0) = false := by simp
  have SIX0 : Hid (∀ w, Calls Tryd.prog 51 #[.int .i64 (r : Int)] w fun e w' => e = .returned (.int .u8 ((six r).toNat : Int)) ∧ w' = w) := Lib.hid (fun w => six_any r w (by omega))
  have SIX1 : Hid (∀ w, Calls Tryd.prog 51 #[.int .i64 ((r : Int) / 64)] w fun e w' => e = .returned (.int .u8 ((six (r / 64)).toNat : Int)) ∧ w' = w) := Lib.hid (fun w => by
    rw [show (r : Int) / 64 = ((r / 64 : Nat) : Int) by omega]
    exact six_any (r / 64) w (by omega))
  have SIX2 : Hid (∀ w, Calls Tryd.prog 51 #[.int .i64 ((r : Int) / 4096)] w fun e w' => e = .returned (.int .u8 ((six (r / 4096)).toNat : Int)) ∧ w' = w) := Lib.hid (fun w => by
    rw [show (r : Int) / 4096 = ((r / 4096 : Nat) : Int) by omega]
    exact six_any (r / 4096) w (by omega))
  by_cases h1 : 1114111 < r
  · have h1' : decide ((1114111 : Int) < (r : Int)) = true := by simp; omega
    have hp : putL r = [] := by unfold putL; rw [if_pos (.inl h1)]
    rw [hp]
    clear h1 hp
    go_enter Tryd.func42, Tryd.ntmps42
    go_wp2
    go_ret
    exact ⟨rfl, Below.refl _ _⟩
  · have h1' : decide ((1114111 : Int) < (r : Int)) = false := by simp; omega
    by_cases h2 : 55296 ≤ r ∧ r ≤ 57343
    · have hp : putL r = [] := by unfold putL; rw [if_pos (.inr h2)]
      rw [hp]
      obtain ⟨h21, h22⟩ := h2
      clear h1 hp
      go_enter Tryd.func42, Tryd.ntmps42
      go_wp2_with (go_at_call 27; refine (in_yes _ _ _ _ (by omega) (by omega)).mono ?_; rintro e w' ⟨rfl, rfl⟩)
      go_ret
      exact ⟨rfl, Below.refl _ _⟩
    · have h2' : (r : Int) < 55296 ∨ 57343 < (r : Int) := by omega
      have hb0 : ¬ (1114111 < r ∨ (55296 ≤ r ∧ r ≤ 57343)) := by omega
      have H2 := Lib.hid h2'
      have H1 := Lib.hid (show r ≤ 1114111 by omega)
      clear h2 h2'
      by_cases h3 : r < 128
      · have hp : putL r = [UInt8.ofNat r] := by unfold putL; rw [if_neg hb0, if_pos h3]
        have hback := lit_back (P := Tryd.prog) w 5 22 9 [UInt8.ofNat r] [.int .u8 (r : Int)] 1 (by simp [bv_nat r (by omega)]) rfl Tryd.underlying22 Tryd.underlying5 Tryd.underlying9
        rw [hp]
        clear h1 hb0 hp
        have h3' : (r : Int) < 128 := by omega
        go_enter Tryd.func42, Tryd.ntmps42
        go_wp2_with (go_at_call 27; refine (in_no _ _ _ _ H2.out).mono ?_; rintro e w' ⟨rfl, rfl⟩)
        go_ret
        exact ⟨rfl, (Below.refl _ _).alloc (Nat.le_refl _) _⟩
      · by_cases h4 : r < 2048
        · have hp : putL r = [UInt8.ofNat (192 + r / 64), six r] := by unfold putL; rw [if_neg hb0, if_neg h3, if_pos h4]
          have hback := lit_back (P := Tryd.prog) w 5 22 9 [UInt8.ofNat (192 + r / 64), six r] [.int .u8 (192 + (r : Int) / 64), .int .u8 ((six r).toNat : Int)] 2 (by rw [show (192 + (r : Int) / 64) = ((192 + r / 64 : Nat) : Int) by omega, List.map_cons, bv_nat _ (by omega)]; rfl) rfl Tryd.underlying22 Tryd.underlying5 Tryd.underlying9
          rw [hp]
          clear hp
          generalize UInt8.ofNat (192 + r / 64) = c0 at hback ⊢
          clear h1 hb0
          have h3' : decide ((r : Int) < 128) = false := by simp; omega
          have h4' : decide ((r : Int) < 2048) = true := by simp; omega
          go_enter Tryd.func42, Tryd.ntmps42
          go_wp2_with (first | (go_at_call 27; refine (in_no _ _ _ _ H2.out).mono ?_; rintro e w' ⟨rfl, rfl⟩) | (go_at_call 51; with_reducible refine (SIX0.out _).mono ?_; rintro e w' ⟨rfl, rfl⟩))
          go_ret
          exact ⟨rfl, (Below.refl _ _).alloc (Nat.le_refl _) _⟩
        · by_cases h5 : r < 65536
          · have hp : putL r = [UInt8.ofNat (224 + r / 4096), six (r / 64), six r] := by unfold putL; rw [if_neg hb0, if_neg h3, if_neg h4, if_pos h5]
            have hback := lit_back (P := Tryd.prog) w 5 22 9 [UInt8.ofNat (224 + r / 4096), six (r / 64), six r] [.int .u8 (224 + (r : Int) / 4096), .int .u8 ((six (r / 64)).toNat : Int), .int .u8 ((six r).toNat : Int)] 3 (by rw [show (224 + (r : Int) / 4096) = ((224 + r / 4096 : Nat) : Int) by omega, List.map_cons, bv_nat _ (by omega)]; rfl) rfl Tryd.underlying22 Tryd.underlying5 Tryd.underlying9
            rw [hp]
            clear hp
            generalize UInt8.ofNat (224 + r / 4096) = c0 at hback ⊢
            clear h1 hb0
            have h3' : decide ((r : Int) < 128) = false := by simp; omega
            have h4' : decide ((r : Int) < 2048) = false := by simp; omega
            have h5' : decide ((r : Int) < 65536) = true := by simp; omega
            go_enter Tryd.func42, Tryd.ntmps42
            go_wp2_with (first | (go_at_call 27; refine (in_no _ _ _ _ H2.out).mono ?_; rintro e w' ⟨rfl, rfl⟩) | (go_at_call 51; first | (with_reducible refine (SIX1.out _).mono ?_; rintro e w' ⟨rfl, rfl⟩) | (with_reducible refine (SIX0.out _).mono ?_; rintro e w' ⟨rfl, rfl⟩)))
            go_ret
            exact ⟨rfl, (Below.refl _ _).alloc (Nat.le_refl _) _⟩
          · have hp : putL r = [UInt8.ofNat (240 + r / 262144), six (r / 4096), six (r / 64), six r] := by unfold putL; rw [if_neg hb0, if_neg h3, if_neg h4, if_neg h5]
            have hback := lit_back (P := Tryd.prog) w 5 22 9 [UInt8.ofNat (240 + r / 262144), six (r / 4096), six (r / 64), six r] [.int .u8 (240 + (r : Int) / 262144), .int .u8 ((six (r / 4096)).toNat : Int), .int .u8 ((six (r / 64)).toNat : Int), .int .u8 ((six r).toNat : Int)] 4 (by rw [show (240 + (r : Int) / 262144) = ((240 + r / 262144 : Nat) : Int) by omega, List.map_cons, bv_nat _ (by have := H1.out; omega)]; rfl) rfl Tryd.underlying22 Tryd.underlying5 Tryd.underlying9
            rw [hp]
            clear hp
            generalize UInt8.ofNat (240 + r / 262144) = c0 at hback ⊢
            have h3' : decide ((r : Int) < 128) = false := by simp; omega
            have h4' : decide ((r : Int) < 2048) = false := by simp; omega
            have h5' : decide ((r : Int) < 65536) = false := by simp; omega
            have h6' : (r : Int) ≤ 1114111 := by omega
            clear h1 hb0
            go_enter Tryd.func42, Tryd.ntmps42
            go_wp2_with (first | (go_at_call 27; refine (in_no _ _ _ _ H2.out).mono ?_; rintro e w' ⟨rfl, rfl⟩) | (go_at_call 51; first | (with_reducible refine (SIX2.out _).mono ?_; rintro e w' ⟨rfl, rfl⟩) | (with_reducible refine (SIX1.out _).mono ?_; rintro e w' ⟨rfl, rfl⟩) | (with_reducible refine (SIX0.out _).mono ?_; rintro e w' ⟨rfl, rfl⟩)))
            go_ret
            exact ⟨rfl, (Below.refl _ _).alloc (Nat.le_refl _) _⟩
end Go.Proofs.YtdgdflbhjbgmdaaDoor
