/-
  Words: the walk of impl's readQuoted.
-/
import Derived.Test.YtconopkmiicjeaaDoorIwC
import Derived.Test.YtconopkmiicjeaaDoorGoto
import Derived.Test.YtconopkmiicjeaaDoorWdQ
import Derived.WalkMore
namespace Go.Proofs.YtconopkmiicjeaaDoor
set_option linter.unusedVariables false
open Go.RowKit

theorem quotedGo_bad (l : List UInt8) : ∀ (n i : Nat) (out : List UInt8), (400 < out.length ∨ plainAll out = false) → quotedGo l n i out = none
  | 0, _, _, _ => rfl
  | n + 1, i, out, h => by
    have h2 : ∀ b, 400 < (out ++ [b]).length ∨ plainAll (out ++ [b]) = false := by
      intro b
      rcases h with h | h
      · left; simp; omega
      · right
        unfold plainAll at h ⊢
        rw [List.all_append, h]
        rfl
    rw [quotedGo]
    split
    · split
      · first | rfl | rw [if_pos h]
      · split
        · split
          · exact quotedGo_bad l n _ _ (h2 _)
          · rfl
        · exact quotedGo_bad l n _ _ (h2 _)
    · rfl

/-- A row that lies behind block g stays behind an act on g alone. -/
theorem row_stay {wr w1 : World} {g B : Nat} {e : TypeId} {v : Value} {n : Nat} {xs : List Value} (hlt : g < B) (hrow : wr.ownsRow B e 1 v n xs) (hg : wr.grownBy w1 (some g)) : w1.ownsRow B e 1 v n xs := by
  refine hrow.kept hg ?_
  cases hv : v.ownBlock with
  | none => exact .inl rfl
  | some k =>
    refine .inr (fun e2 => ?_)
    have e3 := Option.some.inj e2
    have := (hrow.lt k hv).1
    omega
/-- What an append to such a row leaves. -/
theorem app_stay {w wr w1 : World} {g : Nat} {e : TypeId} {v : Value} {n : Nat} {xs : List Value} {tmp : Obj} (hgw : w.grownBy wr (some g)) (hlt : g < w.heap.size)
    (hrow : wr.ownsRow w.heap.size e 1 v n xs) (hgrow : (wr.alloc tmp).grownBy w1 v.ownBlock) : w1.heap[g]? = wr.heap[g]? ∧ w.grownBy w1 (some g) := by
  have hs := hgw.size
  have hb : ∀ k, k < w.heap.size → w1.heap[k]? = wr.heap[k]? := fun k hk => by
    rw [hgrow.block k (by simp; omega) (fun e' => by have := (hrow.lt k e'.symm).1; omega)]
    exact Below.heap_alloc _ _ _ (by omega)
  have hsz : wr.heap.size ≤ w1.heap.size := by have := hgrow.size; simp at this; omega
  exact ⟨hb g hlt, ⟨hgrow.os.trans hgw.os, hgrow.tape.trans hgw.tape, hgrow.output.trans hgw.output, Nat.le_trans hs hsz, fun k hk hn => (hb k hk).trans (hgw.block k hk hn)⟩⟩

/-- What a reader tells: the word and the place behind, or that none is there. -/
def ReadsW (T : Option (List UInt8 × Nat)) (g : Nat) (s : ByteArray) (w : World) (e : Ending) (w' : World) : Prop :=
  ((∃ (o : ByteArray) (j : Nat), T = some (o.data.toList, j) ∧ e = .returned (.bool true) ∧ Rdr w' g s j o) ∨ (T = none ∧ e = .returned (.bool false))) ∧ w.grownBy w' (some g)

/-- The frame between two jumps. -/
def QFrame (g : Nat) (v : Value) (c : UInt8) (a : Act) : Prop := ∃ u1 u2 u5 u6 u7 u8 u9 u10 u11 u12 u13 u14 u15 u16 u17 u18 u19 u20 u21 u22 u23 u24 u25 u26 u27 u28 u29 u30 u31 u32 u33 u34 u35 u36 : Value, a = { tmps := #[.pointer (some ⟨g, 0, none⟩), u1, u2, v, .int .u8 (c.toNat : Int), u5, u6, u7, u8, u9, u10, u11, u12, u13, u14, u15, u16, u17, u18, u19, u20, u21, u22, u23, u24, u25, u26, u27, u28, u29, u30, u31, u32, u33, u34, u35, u36], defers := [] }

/-- At a label: the value so far is L, the reader stands at k, the byte at hand is c. -/
structure QAt (w : World) (g : Nat) (s : ByteArray) (v0 : ByteArray) (T : Option (List UInt8 × Nat)) (l k n : Nat) (L : List UInt8) (c : UInt8) (v : Value) (wr : World) : Prop where
  rdr : Rdr wr g s k v0
  row : wr.ownsRow w.heap.size 5 1 v L.length (L.map bv)
  grown : w.grownBy wr (some g)
  room : s.size ≤ k + n
  few : L.length ≤ 400
  plain : plainAll L = true
  two : l = 2 → plainB c = true
  told : (l = 0 ∧ quotedGo s.data.toList n k L = T) ∨ (l = 2 ∧ quotedGo s.data.toList n k (L ++ [c]) = T) ∨ (l = 1 ∧ (if k < s.size ∧ (s.data.toList.getD k 0 = 34 ∨ s.data.toList.getD k 0 = 92) then quotedGo s.data.toList n (k + 1) (L ++ [s.data.toList.getD k 0]) else none) = T)
def QJ (w : World) (g : Nat) (s : ByteArray) (v0 : ByteArray) (T : Option (List UInt8 × Nat)) (l : Nat) (a : Act) (wr : World) : Prop :=
  ∃ (k n : Nat) (L : List UInt8) (c : UInt8) (v : Value), QFrame g v c a ∧ QAt w g s v0 T l k n L c v wr
def qMeasure (g : Nat) (s : ByteArray) (l : Nat) (_ : Act) (w : World) : Nat := 2 * (s.size + 1 - (intOf ((w.cell? ⟨g, 1, none⟩).getD undef)).toNat) + (if l = 0 then 0 else 1)
theorem qMeasure_at {wr : World} {g : Nat} {s v : ByteArray} {k : Nat} (h : Rdr wr g s k v) (l : Nat) (a : Act) : qMeasure g s l a wr = 2 * (s.size + 1 - k) + (if l = 0 then 0 else 1) := by
  unfold qMeasure
  rw [h.cells.2.1]
  simp [intOf]

set_option maxRecDepth 100000 in
set_option maxHeartbeats 4000000 in
theorem readQuoted_any {w : World} {g : Nat} {s : ByteArray} {k0 : Nat} {v0 : ByteArray} (h : Rdr w g s k0 v0) :
    Calls Tryd.prog 57 #[.pointer (some ⟨g, 0, none⟩)] w (ReadsW (quotedGo s.data.toList s.size k0 []) g s w) := by
  obtain ⟨i0, hi, hz0, hz1, hz2⟩ := info_parts infoByteJ
  obtain ⟨T, hT⟩ : ∃ T, quotedGo s.data.toList s.size k0 [] = T := ⟨_, rfl⟩
  rw [hT]
  have HT := Lib.hid hT
  have hs := h.few
  have hgl := h.lt
  have H0 := Lib.hid h
  have INQ := Lib.hid inQuoted_any
  clear hT h
  go_enter Tryd.func57, Tryd.ntmps57
  go_wp2_with fail
  refine wp_scope_gotos 0 (QJ w g s v0 T) (qMeasure g s) rfl ?_ ?_
  · intro Q' hQ
    go_wp2_with fail
    go_step3
    rename_i a1 h1
    refine h1 _ _ (hQ _ _ ⟨k0, s.size, [], 0, _, ⟨_, _, _, _, _, _, _, _, _, _, _, _, _, _, _, _, _, _, _, _, _, _, _, _, _, _, _, _, _, _, _, _, _, _, rfl⟩, ⟨H0.out, World.ownsRow_nil _ _ _ _, grownBy_refl _ _, by omega, by simp, rfl, by simp, .inl ⟨rfl, HT.out⟩⟩⟩)
  · rintro l a wr ⟨k, n, L, c, v, ⟨u1, u2, u5, u6, u7, u8, u9, u10, u11, u12, u13, u14, u15, u16, u17, u18, u19, u20, u21, u22, u23, u24, u25, u26, u27, u28, u29, u30, u31, u32, u33, u34, u35, u36, rfl⟩, hq⟩
    have hl : l = 0 ∨ l = 1 ∨ l = 2 := by
      rcases hq.told with h | h | h
      · exact .inl h.1
      · exact .inr (.inr h.1)
      · exact .inr (.inl h.1)
    have hm := qMeasure_at hq.rdr l { tmps := #[.pointer (some ⟨g, 0, none⟩), u1, u2, v, .int .u8 (c.toNat : Int), u5, u6, u7, u8, u9, u10, u11, u12, u13, u14, u15, u16, u17, u18, u19, u20, u21, u22, u23, u24, u25, u26, u27, u28, u29, u30, u31, u32, u33, u34, u35, u36], defers := [] }
    rw [hm]
    clear hm
    rcases hl with rfl | rfl | rfl
    · refine ⟨_, rfl, ?_⟩
      have NX := Lib.hid (next_any hq.rdr)
      have Q := Lib.hid hq
      clear hq
      go_wp2_with fail
      refine NX.out.mono ?_
      rintro e w1 ⟨b, j, rfl, hr1, hg1, hcase⟩
      have R1 := Lib.hid hr1
      have G1 := Lib.hid (grownBy_trans Q.out.grown hg1)
      have hown := row_stay hgl Q.out.row hg1
      have OWN := Lib.hid hown
      have hform := rowJ_form hown
      have hback := rowJ_back (P := Tryd.prog) hown 22 9 5 Tryd.underlying22 Tryd.underlying5 Tryd.underlying9
      obtain ⟨rc0, rc1, rc2, rf1, rf2⟩ := hr1.cells
      have hq0 : quotedGo s.data.toList n k L = T := by
        rcases Q.out.told with h | h | h
        · exact h.2
        · exact absurd h.1 (by decide)
        · exact absurd h.1 (by decide)
      have hjs := hr1.le
      have hroom := Q.out.room
      have hlen : s.data.toList.length = s.size := by simp
      clear hr1 hg1 NX hown
      by_cases h34 : b = 34
      · have t1 : ((b.toNat : Int) == 34) = true := by rw [h34]; rfl
        have HN : Hid (T = some (L, j)) := Lib.hid (by
          rcases hcase with ⟨hlt, hb, rfl⟩ | ⟨_, hb, _⟩
          · obtain ⟨m, rfl⟩ : ∃ m, n = m + 1 := ⟨n - 1, by omega⟩
            rw [quotedGo, if_pos (by omega), ← hb, if_pos h34, if_neg (by have h5 := Q.out.few; have h6 := Q.out.plain; rw [h6]; simp; omega)] at hq0
            exact hq0.symm
          · rw [h34] at hb
            exact absurd hb (by decide))
        clear hq0 hcase h34 hlen
        rcases hform with ⟨rfl, h⟩ | ⟨gb, cap, rfl, _⟩
        · have hz : L = [] := List.eq_nil_of_length_eq_zero h
          subst hz
          go_wp2_with fail
          simp only [jumpsTo]
          go_ret
          exact ⟨.inl ⟨⟨#[]⟩, j, HN.out, rfl, R1.out.with _⟩, grownBy_trans G1.out (grownBy_one _ _ _ _)⟩
        · generalize hLL : (⟨L.toArray⟩ : ByteArray) = LL at hback
          have HLL : Hid (L = LL.data.toList) := Lib.hid (by rw [← hLL])
          clear hLL
          go_wp2_with fail
          simp only [jumpsTo]
          go_ret
          exact ⟨.inl ⟨LL, j, by rw [← HLL.out]; exact HN.out, rfl, R1.out.with _⟩, grownBy_trans G1.out (grownBy_one _ _ _ _)⟩
      have t1 : ((b.toNat : Int) == 34) = false := ne_byte (b := 34) h34
      clear hback
      by_cases h92 : b = 92
      · have t2 : ((b.toNat : Int) == 92) = true := by rw [h92]; rfl
        obtain ⟨hlt, hb, rfl⟩ : k < s.size ∧ b = s.data.toList.getD k 0 ∧ j = k + 1 := by
          rcases hcase with h | ⟨_, hb, _⟩
          · exact h
          · rw [h92] at hb
            exact absurd hb (by decide)
        obtain ⟨m, rfl⟩ : ∃ m, n = m + 1 := ⟨n - 1, by omega⟩
        rw [quotedGo, if_pos (by omega), ← hb, if_neg h34, if_pos h92, hlen] at hq0
        have NEW : Hid (QAt w g s v0 T 1 (k + 1) m L b v w1) := Lib.hid ⟨R1.out, OWN.out, G1.out, by omega, Q.out.few, Q.out.plain, fun h => absurd h (by decide), .inr (.inr ⟨rfl, hq0⟩)⟩
        clear hq0 hcase h34 h92 hb hlen hform
        go_wp2_with fail
        go_step3
        refine ⟨⟨k + 1, m, L, b, v, ⟨_, _, _, _, _, _, _, _, _, _, _, _, _, _, _, _, _, _, _, _, _, _, _, _, _, _, _, _, _, _, _, _, _, _, rfl⟩, NEW.out⟩, ?_⟩
        rw [qMeasure_at NEW.out.rdr]
        simp
        try omega
      have t2 : ((b.toNat : Int) == 92) = false := ne_byte (b := 92) h92
      cases hp : plainB b with
      | true =>
        have IQ := Lib.hid (fun w => INQ.out b w)
        rw [hp] at IQ
        obtain ⟨hlt, hb, rfl⟩ : k < s.size ∧ b = s.data.toList.getD k 0 ∧ j = k + 1 := by
          rcases hcase with h | ⟨_, hb, _⟩
          · exact h
          · rw [hb] at hp
            exact absurd hp (by decide)
        obtain ⟨m, rfl⟩ : ∃ m, n = m + 1 := ⟨n - 1, by omega⟩
        rw [quotedGo, if_pos (by omega), ← hb, if_neg h34, if_neg h92] at hq0
        have NEW : Hid (QAt w g s v0 T 2 (k + 1) m L b v w1) := Lib.hid ⟨R1.out, OWN.out, G1.out, by omega, Q.out.few, Q.out.plain, fun _ => hp, .inr (.inl ⟨rfl, hq0⟩)⟩
        clear hq0 hcase h34 h92 hb hlen hform hp
        go_wp2_with fail
        refine (IQ.out _).mono ?_
        rintro e w2 ⟨rfl, rfl⟩
        go_wp2_with fail
        go_step3
        refine ⟨⟨k + 1, m, L, b, v, ⟨_, _, _, _, _, _, _, _, _, _, _, _, _, _, _, _, _, _, _, _, _, _, _, _, _, _, _, _, _, _, _, _, _, _, rfl⟩, NEW.out⟩, ?_⟩
        rw [qMeasure_at NEW.out.rdr]
        simp
        try omega
      | false =>
        have IQ := Lib.hid (fun w => INQ.out b w)
        rw [hp] at IQ
        have HN : Hid (T = none) := Lib.hid (by
          rcases hcase with ⟨hlt, hb, rfl⟩ | ⟨hk, hb, rfl⟩
          · obtain ⟨m, rfl⟩ : ∃ m, n = m + 1 := ⟨n - 1, by omega⟩
            rw [quotedGo, if_pos (by omega), ← hb, if_neg h34, if_neg h92] at hq0
            rw [← hq0]
            refine quotedGo_bad _ _ _ _ (.inr ?_)
            unfold plainAll
            rw [List.all_append]
            simp [hp]
          · rw [← hq0]
            exact quotedGo_end _ _ _ _ (by omega))
        clear hq0 hcase h34 h92 hlen hform hp
        go_wp2_with fail
        refine (IQ.out _).mono ?_
        rintro e w2 ⟨rfl, rfl⟩
        go_wp2_with fail
        simp only [jumpsTo]
        go_ret
        exact ⟨.inr ⟨HN.out, rfl⟩, G1.out⟩
    · refine ⟨_, rfl, ?_⟩
      have NX := Lib.hid (next_any hq.rdr)
      have Q := Lib.hid hq
      clear hq
      go_wp2_with fail
      refine NX.out.mono ?_
      rintro e w1 ⟨b, j, rfl, hr1, hg1, hcase⟩
      have R1 := Lib.hid hr1
      have G1 := Lib.hid (grownBy_trans Q.out.grown hg1)
      have hown := row_stay hgl Q.out.row hg1
      have hform := rowJ_form hown
      have hszs := G1.out.size
      have hq0 : (if k < s.size ∧ (s.data.toList.getD k 0 = 34 ∨ s.data.toList.getD k 0 = 92) then quotedGo s.data.toList n (k + 1) (L ++ [s.data.toList.getD k 0]) else none) = T := by
        rcases Q.out.told with h | h | h
        · exact absurd h.1 (by decide)
        · exact absurd h.1 (by decide)
        · exact h.2
      have hjs := hr1.le
      have hroom := Q.out.room
      have hL4 := Q.out.few
      have HPA : Hid (plainAll L = true) := Lib.hid Q.out.plain
      clear hr1 hg1 NX
      by_cases hb2 : b = 34 ∨ b = 92
      · obtain ⟨hlt, hb, rfl⟩ : k < s.size ∧ b = s.data.toList.getD k 0 ∧ j = k + 1 := by
          rcases hcase with h | ⟨_, hb, _⟩
          · exact h
          · rw [hb] at hb2
            exact absurd hb2 (by decide)
        rw [← hb, if_pos ⟨hlt, hb2⟩] at hq0
        have TOLD := Lib.hid hq0
        have HPL : Hid (plainB b = true) := Lib.hid (by rcases hb2 with rfl | rfl <;> decide)
        have HB2 := Lib.hid hb2
        clear hq0 hcase hb hb2
        have hu : (((b.toNat : Int) != 34) = false) ∨ (((b.toNat : Int) != 34) = true ∧ ((b.toNat : Int) != 92) = false) := by
          rcases HB2.out with rfl | rfl
          · exact .inl rfl
          · exact .inr ⟨rfl, rfl⟩
        rcases hu with u1 | ⟨u1, u2⟩
        all_goals
          rcases hform with ⟨rfl, h⟩ | ⟨gb, cap, rfl, _⟩
          · have hz : L = [] := List.eq_nil_of_length_eq_zero h
            subst hz
            clear h
            go_wp2_with fail
            go_step3
            go_wp2_with (first | (at_builtin; refine wpList_append_own _ rfl _ _ 22 rfl w.heap.size 5 i0 (.int .u8 0) 1 1 Tryd.underlying22 hi hz0 hz1 hz2 rfl (by decide) _ _ _ rfl (hown.alloc _) ⟨w1.heap.size, 0, none⟩ 1 1 [.int .u8 (b.toNat : Int)] rfl rfl (cell_one_new _ _ _) (by simp [Value.oneCell']) (by unfold maxLen; omega) (by omega) (by simp; omega) ?_; intro v3 w3 hO3 hg3 _))
            have hst := app_stay G1.out hgl hown hg3
            have hrow : w3.ownsRow w.heap.size 5 1 v3 ([] ++ [b]).length (([] ++ [b]).map bv) := by
              have h := hO3
              simpa [bv] using h
            have NEW : Hid (QAt w g s v0 T 0 (k + 1) n ([] ++ [b]) b v3 w3) := Lib.hid ⟨⟨hst.1.trans R1.out.cell, R1.out.le, R1.out.few⟩, hrow, hst.2, by omega, by simp, by unfold plainAll; simp [HPL.out], fun h => absurd h (by decide), .inl ⟨rfl, TOLD.out⟩⟩
            clear hst hrow
            go_wp2_with fail
            go_step3
            refine ⟨⟨k + 1, n, [] ++ [b], b, v3, ⟨_, _, _, _, _, _, _, _, _, _, _, _, _, _, _, _, _, _, _, _, _, _, _, _, _, _, _, _, _, _, _, _, _, _, rfl⟩, NEW.out⟩, ?_⟩
            rw [qMeasure_at NEW.out.rdr]
            simp
            try omega
          · by_cases h4 : L.length = 400
            · have g4 : ((L.length : Int) == 400) = true := by rw [beq_iff_eq]; omega
              have HN : Hid (T = none) := Lib.hid (by rw [← TOLD.out]; exact quotedGo_bad _ _ _ _ (.inl (by simp; omega)))
              clear h4
              go_wp2_with fail
              go_step3
              go_wp2_with fail
              simp only [jumpsTo]
              go_ret
              exact ⟨.inr ⟨HN.out, rfl⟩, G1.out⟩
            · have g4 : ((L.length : Int) == 400) = false := by rw [beq_eq_false_iff_ne]; omega
              have hL3 : L.length ≤ 399 := by omega
              clear h4
              go_wp2_with fail
              go_step3
              go_wp2_with (first | (at_builtin; refine wpList_append_own _ rfl _ _ 22 rfl w.heap.size 5 i0 (.int .u8 0) 1 1 Tryd.underlying22 hi hz0 hz1 hz2 rfl (by decide) _ _ _ rfl (hown.alloc _) ⟨w1.heap.size, 0, none⟩ 1 1 [.int .u8 (b.toNat : Int)] rfl rfl (cell_one_new _ _ _) (by simp [Value.oneCell']) (by unfold maxLen; omega) (by omega) (by simp; omega) ?_; intro v3 w3 hO3 hg3 _))
              have hst := app_stay G1.out hgl hown hg3
              have hrow : w3.ownsRow w.heap.size 5 1 v3 (L ++ [b]).length ((L ++ [b]).map bv) := by
                have h := hO3
                simpa [bv] using h
              have NEW : Hid (QAt w g s v0 T 0 (k + 1) n (L ++ [b]) b v3 w3) := Lib.hid ⟨⟨hst.1.trans R1.out.cell, R1.out.le, R1.out.few⟩, hrow, hst.2, by omega, by simp; omega, by unfold plainAll; simp [HPL.out, show L.all plainB = true from HPA.out], fun h => absurd h (by decide), .inl ⟨rfl, TOLD.out⟩⟩
              clear hst hrow
              go_wp2_with fail
              go_step3
              refine ⟨⟨k + 1, n, L ++ [b], b, v3, ⟨_, _, _, _, _, _, _, _, _, _, _, _, _, _, _, _, _, _, _, _, _, _, _, _, _, _, _, _, _, _, _, _, _, _, rfl⟩, NEW.out⟩, ?_⟩
              rw [qMeasure_at NEW.out.rdr]
              simp
              try omega
      · have HN : Hid (T = none) := Lib.hid (by
          rw [← hq0]
          rcases hcase with ⟨hlt, hb, rfl⟩ | ⟨hk, hb, rfl⟩
          · rw [← hb, if_neg (fun h => hb2 h.2)]
          · rw [if_neg (by omega)])
        have u1 : ((b.toNat : Int) != 34) = true := by rw [bne, show ((b.toNat : Int) == 34) = false from ne_byte (b := 34) (fun e => hb2 (.inl e))]; rfl
        have u2 : ((b.toNat : Int) != 92) = true := by rw [bne, show ((b.toNat : Int) == 92) = false from ne_byte (b := 92) (fun e => hb2 (.inr e))]; rfl
        clear hq0 hcase hb2 hform
        go_wp2_with fail
        simp only [jumpsTo]
        go_ret
        exact ⟨.inr ⟨HN.out, rfl⟩, G1.out⟩
    · refine ⟨_, rfl, ?_⟩
      have R1 := Lib.hid hq.rdr
      have G1 := Lib.hid hq.grown
      have hown := hq.row
      have hform := rowJ_form hown
      have hszs := hq.grown.size
      have hroom := hq.room
      have hjs := hq.rdr.le
      have hL4 := hq.few
      have HPL : Hid (plainB c = true) := Lib.hid (hq.two rfl)
      have HPA : Hid (plainAll L = true) := Lib.hid hq.plain
      have TOLD : Hid (quotedGo s.data.toList n k (L ++ [c]) = T) := Lib.hid (by
        rcases hq.told with h | h | h
        · exact absurd h.1 (by decide)
        · exact h.2
        · exact absurd h.1 (by decide))
      clear hq
      rcases hform with ⟨rfl, h⟩ | ⟨gb, cap, rfl, _⟩
      · have hz : L = [] := List.eq_nil_of_length_eq_zero h
        subst hz
        clear h
        go_wp2_with (first | (at_builtin; refine wpList_append_own _ rfl _ _ 22 rfl w.heap.size 5 i0 (.int .u8 0) 1 1 Tryd.underlying22 hi hz0 hz1 hz2 rfl (by decide) _ _ _ rfl (hown.alloc _) ⟨wr.heap.size, 0, none⟩ 1 1 [.int .u8 (c.toNat : Int)] rfl rfl (cell_one_new _ _ _) (by simp [Value.oneCell']) (by unfold maxLen; omega) (by omega) (by simp; omega) ?_; intro v3 w3 hO3 hg3 _))
        have hst := app_stay G1.out hgl hown hg3
        have hrow : w3.ownsRow w.heap.size 5 1 v3 ([] ++ [c]).length (([] ++ [c]).map bv) := by
          have h := hO3
          simpa [bv] using h
        have NEW : Hid (QAt w g s v0 T 0 k n ([] ++ [c]) c v3 w3) := Lib.hid ⟨⟨hst.1.trans R1.out.cell, R1.out.le, R1.out.few⟩, hrow, hst.2, by omega, by simp, by unfold plainAll; simp [HPL.out], fun h => absurd h (by decide), .inl ⟨rfl, TOLD.out⟩⟩
        clear hst hrow
        go_wp2_with fail
        go_step3
        refine ⟨⟨k, n, [] ++ [c], c, v3, ⟨_, _, _, _, _, _, _, _, _, _, _, _, _, _, _, _, _, _, _, _, _, _, _, _, _, _, _, _, _, _, _, _, _, _, rfl⟩, NEW.out⟩, ?_⟩
        rw [qMeasure_at NEW.out.rdr]
        simp
        try omega
      · by_cases h4 : L.length = 400
        · have g4 : ((L.length : Int) == 400) = true := by rw [beq_iff_eq]; omega
          have HN : Hid (T = none) := Lib.hid (by rw [← TOLD.out]; exact quotedGo_bad _ _ _ _ (.inl (by simp; omega)))
          clear h4
          go_wp2_with fail
          simp only [jumpsTo]
          go_ret
          exact ⟨.inr ⟨HN.out, rfl⟩, G1.out⟩
        · have g4 : ((L.length : Int) == 400) = false := by rw [beq_eq_false_iff_ne]; omega
          have hL3 : L.length ≤ 399 := by omega
          clear h4
          go_wp2_with (first | (at_builtin; refine wpList_append_own _ rfl _ _ 22 rfl w.heap.size 5 i0 (.int .u8 0) 1 1 Tryd.underlying22 hi hz0 hz1 hz2 rfl (by decide) _ _ _ rfl (hown.alloc _) ⟨wr.heap.size, 0, none⟩ 1 1 [.int .u8 (c.toNat : Int)] rfl rfl (cell_one_new _ _ _) (by simp [Value.oneCell']) (by unfold maxLen; omega) (by omega) (by simp; omega) ?_; intro v3 w3 hO3 hg3 _))
          have hst := app_stay G1.out hgl hown hg3
          have hrow : w3.ownsRow w.heap.size 5 1 v3 (L ++ [c]).length ((L ++ [c]).map bv) := by
            have h := hO3
            simpa [bv] using h
          have NEW : Hid (QAt w g s v0 T 0 k n (L ++ [c]) c v3 w3) := Lib.hid ⟨⟨hst.1.trans R1.out.cell, R1.out.le, R1.out.few⟩, hrow, hst.2, by omega, by simp; omega, by unfold plainAll; simp [HPL.out, show L.all plainB = true from HPA.out], fun h => absurd h (by decide), .inl ⟨rfl, TOLD.out⟩⟩
          clear hst hrow
          go_wp2_with fail
          go_step3
          refine ⟨⟨k, n, L ++ [c], c, v3, ⟨_, _, _, _, _, _, _, _, _, _, _, _, _, _, _, _, _, _, _, _, _, _, _, _, _, _, _, _, _, _, _, _, _, _, rfl⟩, NEW.out⟩, ?_⟩
          rw [qMeasure_at NEW.out.rdr]
          simp
          try omega
end Go.Proofs.YtconopkmiicjeaaDoor
