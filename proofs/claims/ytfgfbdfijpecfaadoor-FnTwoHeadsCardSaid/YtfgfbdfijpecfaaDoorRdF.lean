/-
  Header fields: the walk of impl's readField.
-/
import Derived.Test.YtfgfbdfijpecfaaDoorFlF
import Derived.Test.YtfgfbdfijpecfaaDoorFits
import Derived.Test.YtfgfbdfijpecfaaDoorTrimA
import Derived.Test.YtfgfbdfijpecfaaDoorFindI
import Derived.Deep.Draws
import Derived.WalkSmall
namespace Go.Proofs.YtfgfbdfijpecfaaDoor
set_option linter.unusedVariables false
open Go.RowKit

theorem vis_any (b : UInt8) (w : World) : Calls Tryd.prog 40 #[.int .u8 b.toNat] w fun e w' => e = .returned (.bool (nameB b)) ∧ w = w' := by
  unfold nameB
  by_cases h1 : 33 ≤ b.toNat
  · have g1 : decide ((32 : Int) < (b.toNat : Int)) = true := by simp; omega
    rw [decide_eq_true h1]
    by_cases h2 : b.toNat ≤ 126
    · rw [decide_eq_true h2]
      have g2 : decide ((b.toNat : Int) < 127) = true := by simp; omega
      go_enter Tryd.func40, Tryd.ntmps40
      go_wp2_with fail
      go_ret
      exact ⟨rfl, rfl⟩
    · rw [decide_eq_false h2]
      have g2 : decide ((b.toNat : Int) < 127) = false := by simp; omega
      go_enter Tryd.func40, Tryd.ntmps40
      go_wp2_with fail
      go_ret
      exact ⟨rfl, rfl⟩
  · have g1 : decide ((32 : Int) < (b.toNat : Int)) = false := by simp; omega
    rw [decide_eq_false h1]
    go_enter Tryd.func40, Tryd.ntmps40
    go_wp2_with fail
    go_ret
    exact ⟨rfl, rfl⟩
theorem fits_vis : Fits 40 nameB := ⟨vis_any, enters_of Tryd.func40 (by kernel_rfl) rfl⟩

theorem set_two {W : World} {n : Nat} {T : TypeId} {a b : Value} (h : W.heap[n]? = some (.cells #[a, b] T (0, 0))) (A B : Value) :
    ((W.setCell ⟨n, 0, none⟩ A).setCell ⟨n, 1, none⟩ B).heap[n]? = some (.cells #[A, B] T (0, 0)) := by
  have h1 := heap_setCell_same W n 0 #[a, b] T A h
  have h2 := heap_setCell_same _ n 1 _ T B h1
  simpa using h2
theorem two_cells {W : World} {n : Nat} {T : TypeId} {a b : Value} {fr : Nat × Nat} (h : W.heap[n]? = some (.cells #[a, b] T fr)) : W.cell? ⟨n, 0, none⟩ = some a ∧ W.cell? ⟨n, 1, none⟩ = some b := by
  constructor <;> simp [World.cell?, h]
theorem two_free {W : World} {n : Nat} {T : TypeId} {a b : Value} (h : W.heap[n]? = some (.cells #[a, b] T (0, 0))) : W.frozen? ⟨n, 0, none⟩ = false ∧ W.frozen? ⟨n, 1, none⟩ = false := by
  constructor <;> simp [World.frozen?, h]
theorem new_two (w : World) (a b : Value) (T : TypeId) : (w.alloc (.cells #[a, b] T)).heap[w.heap.size]? = some (.cells #[a, b] T (0, 0)) := by
  show (w.heap.push _)[w.heap.size]? = some _
  simp

def noneV : Value := .tuple #[.agg #[.string ⟨#[]⟩, .string ⟨#[]⟩], .bool false]
theorem fieldV_cut (t : List UInt8) : fieldV t = if (Lib.cut t [58]).2.2 = true ∧ (Lib.cut t [58]).1 ≠ [] ∧ (Lib.cut t [58]).1.all nameB = true then .tuple #[.agg #[.string (mkB (Lib.cut t [58]).1), .string (mkB (Lib.trimS (Lib.cut t [58]).2.1 [32, 9]))], .bool true] else noneV := by
  have hcb := colon_bounds t
  unfold fieldV fieldOf Lib.cut
  generalize hx : Lib.index t [58] = x at hcb
  obtain ⟨hc1, hc2⟩ := hcb
  by_cases h0 : x < 0
  · rw [if_pos (by omega), if_neg (by omega : ¬ 0 ≤ x)]
    simp [noneV]
  · rw [if_pos (by omega : 0 ≤ x)]
    by_cases h1 : x = 0
    · subst h1
      simp [noneV]
    · have h2 := hc2 (by omega)
      rw [if_neg (by omega : ¬ x < 1)]
      simp only [List.length_singleton, true_and]
      have h3 : t.take x.toNat ≠ [] := by
        intro h
        have := congrArg List.length h
        rw [List.length_take, List.length_nil] at this
        omega
      cases ha : (t.take x.toNat).all nameB with
      | true => rw [if_pos rfl, if_pos ⟨h3, rfl⟩]
      | false => rw [if_neg (by simp), if_neg (by simp)]; rfl

set_option maxRecDepth 100000 in
set_option maxHeartbeats 1000000 in
theorem implField_any (s : ByteArray) (w : World) (hML : MaxLenAt w) (hs : s.size ≤ 1048576) :
    Calls Tryd.prog 23 #[.string s] w fun e w' => e = .returned (fieldV s.data.toList) ∧ Below w.heap.size w w' := by
  obtain ⟨m, hm⟩ := hML
  have hlt : 0 < w.heap.size := block_lt_of_cell hm
  have HC := Lib.hid (fun W (h : Below w.heap.size w W) => Tryd.strings_Cut s ⟨#[58]⟩ m W (by omega) ((h.cell (p := ⟨0, 0, none⟩) hlt).trans hm))
  rw [fieldV_cut]
  rw [show (⟨#[58]⟩ : ByteArray).data.toList = [58] from rfl] at HC
  obtain ⟨b1, b2⟩ : (Lib.cut s.data.toList [58]).1.length ≤ s.size ∧ (Lib.cut s.data.toList [58]).2.1.length ≤ s.size := by
    have : s.data.toList.length = s.size := by simp
    unfold Lib.cut
    split <;> simp <;> omega
  generalize (Lib.cut s.data.toList [58]).1 = A at HC b1 ⊢
  generalize (Lib.cut s.data.toList [58]).2.1 = B at HC b2 ⊢
  generalize (Lib.cut s.data.toList [58]).2.2 = f at HC ⊢
  have AL := Lib.hid (fun w => all_any 40 nameB fits_vis (mkB A) w (by rw [mkB_size]; omega))
  rw [mkB_list] at AL
  have TR := Lib.hid (fun w => implTrim_any (mkB B) w (by rw [mkB_size]; omega))
  rw [mkB_list] at TR
  have hem : (mkB A).toList.isEmpty = A.isEmpty := by rw [Lib.toList_data]; rfl
  change Hid (∀ W, Below w.heap.size w W → Calls Tryd.prog _ _ W fun e w' => e = .returned (.tuple #[.string (mkB A), .string (mkB B), .bool f]) ∧ _) at HC
  change Hid (∀ W, Calls Tryd.prog _ _ W fun e w' => e = .returned (.string (mkB (Lib.trimS B [32, 9]))) ∧ _) at TR
  obtain ⟨T, hT⟩ : ∃ T, mkB (Lib.trimS B [32, 9]) = T := ⟨_, rfl⟩
  rw [hT] at TR ⊢
  generalize mkB A = NA at HC AL hem ⊢
  generalize mkB B = NB at HC TR
  clear hT hm
  have z0 := cells2_0 w (.string ⟨#[]⟩) (.string ⟨#[]⟩) 30
  have z1 := cells2_1 w (.string ⟨#[]⟩) (.string ⟨#[]⟩) 30
  cases f with
  | false =>
    rw [if_neg (by simp)]
    clear hem b1 b2
    go_enter Tryd.func23, Tryd.ntmps23
    go_wp2_with (first | (go_at_call 38; refine (HC.out _ ((Below.refl _ _).alloc (Nat.le_refl _) _)).mono ?_; rintro e w' ⟨rfl, n, rfl⟩) | (go_at_call 39; refine (AL.out _).mono ?_; rintro e w' ⟨rfl, rfl⟩))
    have q := two_cells (set_two (W := (w.alloc (.cells #[.string ⟨#[]⟩, .string ⟨#[]⟩] 30)).drewN n) (new_two w (.string ⟨#[]⟩) (.string ⟨#[]⟩) 30) (.string ⟨#[]⟩) (.string ⟨#[]⟩))
    refine bodyPost_ret (v := noneV) (by simp [results, Tryd.results23, go_sem, q.1, q.2, noneV]) rfl ⟨rfl, ?_⟩
    exact ((below_drewN ((Below.refl _ _).alloc (Nat.le_refl _) _) n).setCell (p := ⟨w.heap.size, 0, none⟩) (Nat.le_refl _) _).setCell (p := ⟨w.heap.size, 1, none⟩) (Nat.le_refl _) _
  | true =>
  cases hA : A.isEmpty with
  | true =>
    rw [if_neg (by rw [List.isEmpty_iff.1 hA]; simp)]
    rw [hA] at hem
    clear hA b1 b2
    go_enter Tryd.func23, Tryd.ntmps23
    go_wp2_with (first | (go_at_call 38; refine (HC.out _ ((Below.refl _ _).alloc (Nat.le_refl _) _)).mono ?_; rintro e w' ⟨rfl, n, rfl⟩) | (go_at_call 39; refine (AL.out _).mono ?_; rintro e w' ⟨rfl, rfl⟩))
    have q := two_cells (set_two (W := (w.alloc (.cells #[.string ⟨#[]⟩, .string ⟨#[]⟩] 30)).drewN n) (new_two w (.string ⟨#[]⟩) (.string ⟨#[]⟩) 30) (.string ⟨#[]⟩) (.string ⟨#[]⟩))
    refine bodyPost_ret (v := noneV) (by simp [results, Tryd.results23, go_sem, q.1, q.2, noneV]) rfl ⟨rfl, ?_⟩
    exact ((below_drewN ((Below.refl _ _).alloc (Nat.le_refl _) _) n).setCell (p := ⟨w.heap.size, 0, none⟩) (Nat.le_refl _) _).setCell (p := ⟨w.heap.size, 1, none⟩) (Nat.le_refl _) _
  | false =>
  rw [hA] at hem
  have hA2 : A ≠ [] := by intro h; rw [h] at hA; cases hA
  cases ha : A.all nameB with
  | false =>
    rw [if_neg (by simp)]
    rw [ha] at AL
    clear hA hA2 ha b1 b2
    go_enter Tryd.func23, Tryd.ntmps23
    go_wp2_with (first | (go_at_call 38; refine (HC.out _ ((Below.refl _ _).alloc (Nat.le_refl _) _)).mono ?_; rintro e w' ⟨rfl, n, rfl⟩) | (go_at_call 39; refine (AL.out _).mono ?_; rintro e w' ⟨rfl, rfl⟩))
    have q := two_cells (set_two (W := (w.alloc (.cells #[.string ⟨#[]⟩, .string ⟨#[]⟩] 30)).drewN n) (new_two w (.string ⟨#[]⟩) (.string ⟨#[]⟩) 30) (.string ⟨#[]⟩) (.string ⟨#[]⟩))
    refine bodyPost_ret (v := noneV) (by simp [results, Tryd.results23, go_sem, q.1, q.2, noneV]) rfl ⟨rfl, ?_⟩
    exact ((below_drewN ((Below.refl _ _).alloc (Nat.le_refl _) _) n).setCell (p := ⟨w.heap.size, 0, none⟩) (Nat.le_refl _) _).setCell (p := ⟨w.heap.size, 1, none⟩) (Nat.le_refl _) _
  | true =>
    rw [if_pos ⟨rfl, hA2, rfl⟩]
    rw [ha] at AL
    clear hA hA2 ha b1 b2
    go_enter Tryd.func23, Tryd.ntmps23
    go_wp2_with (first | (go_at_call 38; refine (HC.out _ ((Below.refl _ _).alloc (Nat.le_refl _) _)).mono ?_; rintro e w' ⟨rfl, n, rfl⟩) | (go_at_call 39; refine (AL.out _).mono ?_; rintro e w' ⟨rfl, rfl⟩))
    refine (TR.out _).mono ?_
    rintro e w2 ⟨rfl, hB2⟩
    obtain ⟨w1, hw1⟩ : ∃ w1, (w.alloc (.cells #[.string ⟨#[]⟩, .string ⟨#[]⟩] 30)).drewN n = w1 := ⟨_, rfl⟩
    rw [hw1] at hB2
    have h1 : w1.heap[w.heap.size]? = some (.cells #[.string ⟨#[]⟩, .string ⟨#[]⟩] 30 (0, 0)) := by rw [← hw1]; exact new_two w _ _ _
    have B1 : Below w.heap.size w w1 := by rw [← hw1]; exact below_drewN ((Below.refl _ _).alloc (Nat.le_refl _) _) n
    have h2 := (hB2.block _ (Array.getElem?_eq_some_iff.1 h1).1).trans h1
    have B2 := Lib.hid (B1.trans (hB2.mono B1.size))
    have H2 := Lib.hid h2
    obtain ⟨k0, k1⟩ := two_cells h2
    obtain ⟨k2, k3⟩ := two_free h2
    clear hB2 h1 B1 h2 hw1 z0 z1
    go_wp2_with fail
    have q := two_cells (set_two H2.out (.string NA) (.string T))
    refine bodyPost_ret (v := .tuple #[.agg #[.string NA, .string T], .bool true]) (by simp [results, Tryd.results23, go_sem, q.1, q.2]) rfl ⟨rfl, ?_⟩
    exact (B2.out.setCell (p := ⟨w.heap.size, 0, none⟩) (Nat.le_refl _) _).setCell (p := ⟨w.heap.size, 1, none⟩) (Nat.le_refl _) _
end Go.Proofs.YtfgfbdfijpecfaaDoor
