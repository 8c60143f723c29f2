/-
  The draws: the walk of a drawn text.
-/
import Derived.Test.YtdgdflbhjbgmdaaTextA
namespace Go.Proofs.Ytdgdflbhjbgmdaa
set_option linter.unusedVariables false
open Go.RowKit

/-- A text of n bytes is drawn. -/
def DrawnText (K : Code) (w0 : World) (g n : Nat) (w : World) (e : Ending) (w' : World) : Prop :=
  ∃ (s : ByteArray) (i' : Nat) (h' : Int), e = .returned (.string s) ∧ s.size = n ∧ Cur K w0 w' g i' h' ∧ w.grownBy w' (some g)

theorem infoByte : (Try.prog.info? 5).map (fun i => (i.zero, i.size, i.bytes)) = some (some (.int .u8 0), 1, 1) := by kernel_rfl

/-- An append to a row that lies behind the cursor leaves the cursor, and what was there. -/
theorem app_keep {K : Code} {w0 w wr w1 : World} {g i : Nat} {h : Int} {e : TypeId} {v : Value} {n : Nat} {xs : List Value} {tmp : Obj} (hc : Cur K w0 wr g i h) (hgw : w.grownBy wr (some g)) (hlt : g < w.heap.size)
    (hrow : wr.ownsRow w.heap.size e 1 v n xs) (hgrow : (wr.alloc tmp).grownBy w1 v.ownBlock) : Cur K w0 w1 g i h ∧ w.grownBy w1 (some g) := by
  have hs := hgw.size
  have hb : ∀ k, k < w.heap.size → w1.heap[k]? = wr.heap[k]? := fun k hk => by
    rw [hgrow.block k (by simp; omega) (fun e' => by have := (hrow.lt k e'.symm).1; omega)]
    exact Below.heap_alloc _ _ _ (by omega)
  have hsz : wr.heap.size ≤ w1.heap.size := by have := hgrow.size; simp at this; omega
  refine ⟨⟨hc.row, hc.few, hc.base, hc.below.trans ⟨hgrow.os, hgrow.tape, hgrow.output, hsz, fun k hk => hb k (by have := hc.base; omega)⟩, (hb g hlt).trans hc.cell, hc.le⟩, ?_⟩
  exact ⟨hgrow.os.trans hgw.os, hgrow.tape.trans hgw.tape, hgrow.output.trans hgw.output, Nat.le_trans hs hsz, fun k hk hn => (hb k hk).trans (hgw.block k hk hn)⟩

/-- A step of the cursor leaves a row that lies behind it. -/
theorem row_keep {wr w1 : World} {g B : Nat} {e : TypeId} {v : Value} {n : Nat} {xs : List Value} (hlt : g < B) (hrow : wr.ownsRow B e 1 v n xs) (hg : wr.grownBy w1 (some g)) : w1.ownsRow B e 1 v n xs := by
  refine hrow.kept hg ?_
  cases hv : v.ownBlock with
  | none => exact .inl rfl
  | some k =>
    refine .inr (fun e2 => ?_)
    have e3 := Option.some.inj e2
    have := (hrow.lt k hv).1
    omega

/-- A row of bytes behind the cursor, both alive. -/
structure RC (K : Code) (w0 w : World) (g i : Nat) (h : Int) (v : Value) (l : List UInt8) (wr : World) : Prop where
  row : wr.ownsRow w.heap.size 5 1 v l.length (l.map bv)
  cur : Cur K w0 wr g i h
  grown : w.grownBy wr (some g)
theorem RC.step {K : Code} {w0 w wr w1 : World} {g i i1 : Nat} {h h1 : Int} {v : Value} {l : List UInt8} (hlt : g < w.heap.size) (r : RC K w0 w g i h v l wr) (hc : Cur K w0 w1 g i1 h1) (hg : wr.grownBy w1 (some g)) : RC K w0 w g i1 h1 v l w1 :=
  ⟨row_keep hlt r.row hg, hc, grownBy_trans r.grown hg⟩
theorem RC.app {K : Code} {w0 w wr w1 : World} {g i : Nat} {h : Int} {v v' : Value} {l : List UInt8} {tmp : Obj} {x : Value} {b : UInt8} (hlt : g < w.heap.size) (r : RC K w0 w g i h v l wr) (hx : x = bv b)
    (hown' : w1.ownsRow w.heap.size 5 1 v' (l.length + 1) (l.map bv ++ [x])) (hgrow : (wr.alloc tmp).grownBy w1 v.ownBlock) : RC K w0 w g i h v' (l ++ [b]) w1 := by
  obtain ⟨h1, h2⟩ := app_keep r.cur r.grown hlt r.row hgrow
  refine ⟨?_, h1, h2⟩
  subst hx
  simpa using hown'

/-- Between two rounds. -/
def TextAt (K : Code) (w0 w : World) (g n : Nat) (v : Value) (wr : World) : Prop :=
  ∃ (l : List UInt8) (i : Nat) (h : Int), l.length ≤ n + 20 ∧ RC K w0 w g i h v l wr

theorem lenOf_row {w : World} {B : Nat} {e : TypeId} {v : Value} {n : Nat} {xs : List Value} (h : w.ownsRow B e 1 v n xs) : lenOf v = n := by
  rcases h.2 with ⟨rfl, rfl⟩ | ⟨g, cap, cur, rfl, _⟩ <;> rfl

/-- The form of a row's slice. -/
theorem row_form {w : World} {B : Nat} {e : TypeId} {v : Value} {n : Nat} {xs : List Value} (h : w.ownsRow B e 1 v n xs) : (v = .slice none 0 0 ∧ n = 0) ∨ ∃ g cap, v = .slice (some ⟨g, 0, none⟩) n cap ∧ n ≤ cap := by
  rcases h.2 with ⟨rfl, rfl⟩ | ⟨g, cap, cur, rfl, _, _, hc, _⟩
  · exact .inl ⟨rfl, rfl⟩
  · exact .inr ⟨g, cap, rfl, hc⟩

theorem row_back {P : Program} {w : World} {B g m cap : Nat} {T : TypeId} {l : List UInt8} (h : w.ownsRow B T 1 (.slice (some ⟨g, 0, none⟩) m cap) m (l.map bv)) (n cap' : Nat) (hn : n ≤ m) (src dst e : TypeId) (hs : P.underlying src = some (.slice e)) (he : P.underlying e = some (.int .u8)) (hd : P.underlying dst = some .string) :
    (convert src dst (.slice (some ⟨g, 0, none⟩) n cap')).run P w = .ok (.string ⟨(l.take n).toArray⟩) w := by
  have hm : l.length = m := by have := h.1; simpa using this
  have hl : (l.take n).length = n := by simp; omega
  have := run_convert_bytes_back (P := P) w src dst e ⟨g, 0, none⟩ cap' (l.take n) hs he hd (fun j hj => by
    have hadd : (⟨g, 0, none⟩ : Addr).add j = ⟨g, j, none⟩ := by unfold Addr.add; split <;> simp_all
    rw [hadd, h.cellAt j (by omega), List.getElem?_map, List.getElem?_eq_getElem (by omega)]
    simp [bv])
  rwa [hl] at this

theorem bv_of (x : Int) (h0 : 0 ≤ x) (h1 : x ≤ 255) : ∃ b : UInt8, Value.int .u8 x = bv b :=
  ⟨UInt8.ofNat x.toNat, by unfold bv; rw [UInt8.toNat_ofNat', Nat.mod_eq_of_lt (by omega)]; congr 1; omega⟩

theorem RC.len {K : Code} {w0 w wr : World} {g i : Nat} {h : Int} {v : Value} {l : List UInt8} (r : RC K w0 w g i h v l wr) : lenOf v = l.length := lenOf_row r.row
theorem RC.form {K : Code} {w0 w wr : World} {g i : Nat} {h : Int} {v : Value} {l : List UInt8} (r : RC K w0 w g i h v l wr) : ∃ a cap, v = .slice a l.length cap := by
  rcases row_form r.row with ⟨rfl, h0⟩ | ⟨gr, cap, rfl, hcap⟩
  · exact ⟨none, 0, by rw [h0]⟩
  · exact ⟨_, _, rfl⟩
/-- A round that has gone on. -/
theorem text_on {K : Code} {w0 w wr w1 : World} {g n i i1 : Nat} {h h1 : Int} {v v' : Value} {l l1 : List UInt8} (r : RC K w0 w g i h v l wr) (r1 : RC K w0 w g i1 h1 v' l1 w1) (hn : l.length < n) (hl : l.length < l1.length) (hl2 : l1.length ≤ n + 20) :
    TextAt K w0 w g n v' w1 ∧ textM n K g v' w1 < textM n K g v wr :=
  ⟨⟨l1, i1, h1, hl2, r1⟩, textM_len r.cur r1.cur n v v' (by rw [r.len, r1.len]; exact hl) (by rw [r.len]; exact hn)⟩
theorem text_more {K : Code} {w0 w wr w1 : World} {g n i i1 : Nat} {h h1 : Int} {v v' : Value} {l l1 : List UInt8} (r : RC K w0 w g i h v l wr) (r1 : RC K w0 w g i1 h1 v' l1 w1) (hl : l.length ≤ l1.length) (hl2 : l1.length ≤ n + 20) (hi : i < i1) :
    TextAt K w0 w g n v' w1 ∧ textM n K g v' w1 < textM n K g v wr :=
  ⟨⟨l1, i1, h1, hl2, r1⟩, textM_code r.cur r1.cur n v v' (by rw [r.len, r1.len]; exact hl) hi r1.cur.le⟩
theorem text_wait {K : Code} {w0 w wr w1 : World} {g n i : Nat} {h h1 : Int} {v v' : Value} {l l1 : List UInt8} (r : RC K w0 w g i h v l wr) (r1 : RC K w0 w g i h1 v' l1 w1) (hl : l.length ≤ l1.length) (hl2 : l1.length ≤ n + 20) (hw : wait h1 < wait h) :
    TextAt K w0 w g n v' w1 ∧ textM n K g v' w1 < textM n K g v wr :=
  ⟨⟨l1, i, h1, hl2, r1⟩, textM_wait r.cur r1.cur n v v' (by rw [r.len, r1.len]; exact hl) hw⟩
/-- Three draws below numbers of at most 256, the first of which was 1 or 2: the code's bytes, or the waiting, have gone down. -/
theorem text_three {K : Code} {w0 w wr w1 : World} {g n i i1 i2 i3 : Nat} {h h1 h2 h3 x1 : Int} {v v' : Value} {l l1 : List UInt8} (r : RC K w0 w g i h v l wr) (r1 : RC K w0 w g i3 h3 v' l1 w1) (hl : l.length ≤ l1.length) (hl2 : l1.length ≤ n + 20)
    (e1 : h1 = nextH h ∧ ((i < K.len ∧ i1 = i + 1) ∨ (i = K.len ∧ i1 = i ∧ x1 = rawX h1 % 5))) (hx : x1 = 1 ∨ x1 = 2) (e2 : h2 = nextH h1 ∧ ((i1 < K.len ∧ i2 = i1 + 1) ∨ (i1 = K.len ∧ i2 = i1))) (e3 : h3 = nextH h2 ∧ ((i2 < K.len ∧ i3 = i2 + 1) ∨ (i2 = K.len ∧ i3 = i2))) :
    TextAt K w0 w g n v' w1 ∧ textM n K g v' w1 < textM n K g v wr := by
  obtain ⟨rfl, o1⟩ := e1
  obtain ⟨rfl, o2⟩ := e2
  obtain ⟨rfl, o3⟩ := e3
  by_cases hi : i < K.len
  · exact text_more r r1 hl hl2 (by omega)
  · rcases o1 with ⟨a, _⟩ | ⟨a, b, d⟩
    · exact absurd a hi
    · obtain ⟨n1, n2, n3⟩ := bad_ne (h := h) (by rcases hx with hx | hx <;> omega)
      obtain rfl : i3 = i := by omega
      exact text_wait r r1 hl hl2 (wait_three n1 n2 n3)
theorem text_first {K : Code} {w0 w wr w1 : World} {g n i i1 : Nat} {h h1 x1 : Int} {v v' : Value} {l l1 : List UInt8} (r : RC K w0 w g i h v l wr) (r1 : RC K w0 w g i1 h1 v' l1 w1) (hl : l.length ≤ l1.length) (hl2 : l1.length ≤ n + 20)
    (e1 : h1 = nextH h ∧ ((i < K.len ∧ i1 = i + 1) ∨ (i = K.len ∧ i1 = i ∧ x1 = rawX h1 % 5))) (hx : x1 = 1 ∨ x1 = 2) :
    TextAt K w0 w g n v' w1 ∧ textM n K g v' w1 < textM n K g v wr := by
  obtain ⟨rfl, o1⟩ := e1
  rcases o1 with ⟨a, b⟩ | ⟨a, b, d⟩
  · exact text_more r r1 hl hl2 (by omega)
  · obtain ⟨n1, n2, n3⟩ := bad_ne (h := h) (by rcases hx with hx | hx <;> omega)
    subst b
    exact text_wait r r1 hl hl2 (wait_one n1 n2 n3)
theorem or_drop {a b d e : Prop} (h : a ∨ (b ∧ d ∧ e)) : a ∨ (b ∧ d) := by
  rcases h with h | ⟨h1, h2, _⟩
  · exact .inl h
  · exact .inr ⟨h1, h2⟩

set_option maxRecDepth 100000 in
set_option maxHeartbeats 2000000 in
theorem text_any {K : Code} {w0 w : World} {g i : Nat} {h : Int} (c : Cur K w0 w g i h) (n : Nat) (hn : n ≤ 64) :
    Calls Try.prog 14 #[.pointer (some ⟨g, 0, none⟩), .int .i64 n] w (DrawnText K w0 g n w) := by
  obtain ⟨i0, hi, hz0, hz1, hz2⟩ := info_parts infoByte
  have hglt := c.lt
  have C := Lib.hid c
  clear c
  go_enter Try.func14, Try.ntmps14
  go_wp2
  go_loopw [5] (fun v wr => TextAt K w0 w g n v wr) (fun v wr => textM n K g v wr)
  case atStart =>
    exact ⟨[], i, h, Nat.zero_le _, World.ownsRow_lit w #[] 0 (Nat.le_refl _) (by decide) rfl, C.out.later ((Below.refl _ _).alloc (Nat.le_refl _) _), World.grownBy_alloc _ _ _⟩
  case round =>
    obtain ⟨l, ia, ha, hl20, hrc⟩ := hrel
    have R := Lib.hid hrc
    clear hrc
    by_cases hlt : l.length < n
    · obtain ⟨a, cap, rfl⟩ := R.out.form
      go_wp2_with fail
      refine (below_any R.out.cur 5 (by decide) (by decide)).mono ?_
      rintro e w1 ⟨v, i1, h1, rfl, hv0, hv5, hc1, hg1, hex⟩
      have R1 := Lib.hid (R.out.step hglt hc1 hg1)
      have E1 := Lib.hid (hex (by decide))
      have hsz1 := R1.out.grown.size
      clear hc1 hg1 hex
      have hv : v = 0 ∨ v = 1 ∨ v = 2 ∨ 3 ≤ v := by omega
      rcases hv with rfl | rfl | rfl | hv3
      · go_wp2_with fail
        refine (byte_any R1.out.cur).mono ?_
        rintro e w2 ⟨x, i2, h2, rfl, hx0, hx1, hc2, hg2, _, _⟩
        obtain ⟨b, hb⟩ := bv_of x hx0 hx1
        have HB := Lib.hid hb
        have R2 := Lib.hid (R1.out.step hglt hc2 hg2)
        have hsz2 := R2.out.grown.size
        clear hc2 hg2 hb
        go_wp2_with (at_builtin; refine wpList_append_own _ rfl _ _ 22 rfl w.heap.size 5 i0 (.int .u8 0) 1 1 Try.underlying22 hi hz0 hz1 hz2 rfl (by decide) _ _ _ rfl (R2.out.row.alloc _) ⟨w2.heap.size, 0, none⟩ 1 1 [.int .u8 x] rfl rfl (cell_one_new _ _ _) (by simp [Value.oneCell']) (by unfold maxLen; omega) (by omega) (by simp; omega) ?_; intro v' w3 hown' hgrow _)
        exact text_on R.out (R2.out.app hglt HB.out hown' hgrow) hlt (by simp) (by simp; omega)
      · go_wp2_with fail
        refine (below_any R1.out.cur 9 (by decide) (by decide)).mono ?_
        rintro e w2 ⟨k0, i2, h2, rfl, hk0, hk9, hc2, hg2, hex2⟩
        obtain ⟨k, rfl⟩ := Int.eq_ofNat_of_zero_le hk0
        have R2 := Lib.hid (R1.out.step hglt hc2 hg2)
        have E2 := Lib.hid (hex2 (by decide))
        clear hc2 hg2 hex2
        go_wp2_with fail
        refine (below_any R2.out.cur 4 (by decide) (by decide)).mono ?_
        rintro e w3 ⟨x, i3, h3, rfl, hx0, hx4, hc3, hg3, hex3⟩
        obtain ⟨b, hb⟩ := bv_of (97 + x) (by omega) (by omega)
        have HB := Lib.hid hb
        have R3 := Lib.hid (R2.out.step hglt hc3 hg3)
        have E3 := Lib.hid (hex3 (by decide))
        clear hc3 hg3 hex3 hb
        go_wp2_with fail
        obtain ⟨wo, rfl⟩ : ∃ wo : World, wo = wr := ⟨_, rfl⟩
        go_loopw [5, 8] (fun v j wi => ∃ (l' : List UInt8) (j' : Nat), j' ≤ k ∧ j = .int .i64 j' ∧ Hid (l'.length = l.length + j') ∧ Hid (RC K w0 w g i3 h3 v l' wi)) (fun _ j _ => k - (intOf j).toNat)
        case atStart => exact ⟨l, 0, Nat.zero_le _, rfl, Lib.hid rfl, R3⟩
        case round =>
          obtain ⟨l', j, hj, rfl, hl', RI⟩ := hrel
          obtain ⟨a', cap', rfl⟩ := RI.out.form
          have hszi := RI.out.grown.size
          by_cases hjk : j < k
          · have hl'' : l'.length ≤ n + 10 := by have := hl'.out; omega
            go_wp2_with (at_builtin; refine wpList_append_own _ rfl _ _ 22 rfl w.heap.size 5 i0 (.int .u8 0) 1 1 Try.underlying22 hi hz0 hz1 hz2 rfl (by decide) _ _ _ rfl (RI.out.row.alloc _) ⟨wr.heap.size, 0, none⟩ 1 1 [.int .u8 (97 + x)] rfl rfl (cell_one_new _ _ _) (by simp [Value.oneCell']) (by unfold maxLen; omega) (by omega) (by simp; omega) ?_; intro v' w4 hown' hgrow _)
            go_roundw
            case rel => exact ⟨l' ++ [b], j + 1, by omega, by go_num, Lib.hid (by have := hl'.out; simp; omega), Lib.hid (RI.out.app hglt HB.out hown' hgrow)⟩
            case measure => simp [intOf]; omega
          · go_wp2
            exact text_three R.out RI.out (by have := hl'.out; omega) (by have := hl'.out; omega) E1.out (.inl rfl) ⟨E2.out.1, or_drop E2.out.2⟩ ⟨E3.out.1, or_drop E3.out.2⟩
      · by_cases hl0 : l.length = 0
        · obtain rfl : l = [] := List.eq_nil_of_length_eq_zero hl0
          clear hl0
          go_wp2_with fail
          exact text_first R.out R1.out (Nat.le_refl _) hl20 E1.out (.inr rfl)
        · have hl1 : (0 : Int) < (l.length : Int) := by omega
          clear hl0
          go_wp2_with fail
          refine (below_any R1.out.cur l.length (by omega) (by omega)).mono ?_
          rintro e w2 ⟨f0, i2, h2, rfl, hf0, hf9, hc2, hg2, hex2⟩
          obtain ⟨f, rfl⟩ := Int.eq_ofNat_of_zero_le hf0
          have R2 := Lib.hid (R1.out.step hglt hc2 hg2)
          have E2 := Lib.hid (hex2 (by omega))
          clear hc2 hg2 hex2
          go_wp2_with fail
          refine (below_any R2.out.cur 20 (by decide) (by decide)).mono ?_
          rintro e w3 ⟨k0, i3, h3, rfl, hk0, hk9, hc3, hg3, hex3⟩
          obtain ⟨k, rfl⟩ := Int.eq_ofNat_of_zero_le hk0
          have R3 := Lib.hid (R2.out.step hglt hc3 hg3)
          have E3 := Lib.hid (hex3 (by decide))
          clear hc3 hg3 hex3
          go_wp2_with fail
          obtain ⟨wo, rfl⟩ : ∃ wo : World, wo = wr := ⟨_, rfl⟩
          go_loopw [5, 11] (fun v j wi => ∃ (l' : List UInt8) (j' : Nat), j' ≤ k ∧ j = .int .i64 j' ∧ Hid (l'.length = l.length + j') ∧ Hid (RC K w0 w g i3 h3 v l' wi)) (fun _ j _ => k - (intOf j).toNat)
          case atStart => exact ⟨l, 0, Nat.zero_le _, rfl, Lib.hid rfl, R3⟩
          case round =>
            obtain ⟨l', j, hj, rfl, hl', RI⟩ := hrel
            have hszi := RI.out.grown.size
            have hl'' : l'.length ≤ n + 20 := by have := hl'.out; omega
            have hfl : f + j < l'.length := by have := hl'.out; omega
            obtain ⟨gr, cap', rfl, _⟩ : ∃ g' cap', u5 = .slice (some ⟨g', 0, none⟩) l'.length cap' ∧ l'.length ≤ cap' := by
              rcases row_form RI.out.row with ⟨_, h0⟩ | h
              · omega
              · exact h
            by_cases hjk : j < k
            · have hcell := RI.out.row.cellAt (f + j) (by omega)
              rw [List.getElem?_map, List.getElem?_eq_getElem hfl] at hcell
              generalize hq : l'[f + j] = q at hcell
              have hcell2 : wr.cell? ⟨gr, f + j, none⟩ = some (.int .u8 (q.toNat : Int)) := hcell
              have hi1 : (0 : Int) ≤ (f : Int) + (j : Int) := by omega
              have hi2 : (f : Int) + (j : Int) < (l'.length : Int) := by omega
              clear hcell hq
              go_wp2_with (at_builtin; refine wpList_append_own _ rfl _ _ 22 rfl w.heap.size 5 i0 (.int .u8 0) 1 1 Try.underlying22 hi hz0 hz1 hz2 rfl (by decide) _ _ _ rfl (RI.out.row.alloc _) ⟨wr.heap.size, 0, none⟩ 1 1 [.int .u8 (q.toNat : Int)] rfl rfl (cell_one_new _ _ _) (by simp [Value.oneCell']) (by unfold maxLen; omega) (by omega) (by simp; omega) ?_; intro v' w4 hown' hgrow _)
              go_roundw
              case rel => exact ⟨l' ++ [q], j + 1, by omega, by go_num, Lib.hid (by have := hl'.out; simp; omega), Lib.hid (RI.out.app hglt rfl hown' hgrow)⟩
              case measure => simp [intOf]; omega
            · have hnj : decide ((j : Int) < (k : Int)) = false := by simp; omega
              go_wp2
              exact text_three R.out RI.out (by have := hl'.out; omega) (by have := hl'.out; omega) E1.out (.inr rfl) ⟨E2.out.1, or_drop E2.out.2⟩ ⟨E3.out.1, or_drop E3.out.2⟩
      · have hv30 : (v == 0) = false := by rw [beq_eq_false_iff_ne]; omega
        have hv31 : (v == 1) = false := by rw [beq_eq_false_iff_ne]; omega
        have hv32 : (v == 2) = false := by rw [beq_eq_false_iff_ne]; omega
        go_wp2_with fail
        refine (below_any R1.out.cur 26 (by decide) (by decide)).mono ?_
        rintro e w2 ⟨x, i2, h2, rfl, hx0, hx1, hc2, hg2, _⟩
        obtain ⟨b, hb⟩ := bv_of (97 + x) (by omega) (by omega)
        have HB := Lib.hid hb
        have R2 := Lib.hid (R1.out.step hglt hc2 hg2)
        have hsz2 := R2.out.grown.size
        clear hc2 hg2 hb
        go_wp2_with (at_builtin; refine wpList_append_own _ rfl _ _ 22 rfl w.heap.size 5 i0 (.int .u8 0) 1 1 Try.underlying22 hi hz0 hz1 hz2 rfl (by decide) _ _ _ rfl (R2.out.row.alloc _) ⟨w2.heap.size, 0, none⟩ 1 1 [.int .u8 (97 + x)] rfl rfl (cell_one_new _ _ _) (by simp [Value.oneCell']) (by unfold maxLen; omega) (by omega) (by simp; omega) ?_; intro v' w3 hown' hgrow _)
        exact text_on R.out (R2.out.app hglt HB.out hown' hgrow) hlt (by simp) (by simp; omega)
    · rcases row_form R.out.row with ⟨rfl, h0⟩ | ⟨gr, cap, rfl, hcap⟩
      · obtain rfl : l = [] := List.eq_nil_of_length_eq_zero h0
        obtain rfl : n = 0 := by simp at hlt; omega
        clear hlt
        have hback : (convert 22 9 (.slice none 0 0)).run Try.prog wr = .ok (.string ⟨#[]⟩) wr := by
          simp [convert, run_underlying Try.underlying22, run_underlying Try.underlying9, run_underlying Try.underlying5, Conv.bytesToString, Sem.run_pure]
          rfl
        go_wp2
        go_ret
        exact ⟨_, ia, ha, rfl, rfl, R.out.cur, R.out.grown⟩
      · have hback := row_back (P := Try.prog) R.out.row n cap (by omega) 22 9 5 Try.underlying22 Try.underlying5 Try.underlying9
        have hnc : n ≤ cap := by omega
        go_wp2
        go_ret
        exact ⟨_, ia, ha, rfl, by show (l.take n).toArray.size = n; simp; omega, R.out.cur, R.out.grown⟩
end Go.Proofs.Ytdgdflbhjbgmdaa
