import Derived.Test.YtjleadlecdcdeaaRows
import Derived.WalkKit
import Derived.WalkSpells
import Derived.Lib.Hide
import Derived.Test.YtjleadlecdcdeaaDlG
import Derived.ChangeKeysEq
import Derived.Test.YtjleadlecdcdeaaDlI
import Derived.Test.YtjleadlecdcdeaaDrawRw
import Derived.Test.YtjleadlecdcdeaaPickI
import Derived.Test.YtjleadlecdcdeaaHdS
import Derived.Test.YtjleadlecdcdeaaLawDx
import Derived.BigQuiet
/-
  The laws' own test on the code's length; what a draw may hand back.
-/
namespace Go.Proofs.Ytjleadlecdcdeaa
set_option linter.unusedVariables false
open Go.RowKit

/-- Two texts of at most m bytes are drawn. -/
def DrawsTwo (m : Nat) (w : World) (e : Ending) (w' : World) : Prop := ∃ s t : ByteArray, e = .returned (.tuple #[.string s, .string t]) ∧ s.size ≤ m ∧ t.size ≤ m ∧ Below w.heap.size w w'

set_option maxHeartbeats 400000 in
theorem big_no (a : Option Addr) (len cap : Nat) (w : World) (hl : len ≤ 1048576) :
    Calls Try.prog 9 #[.slice a len cap] w fun e w' => e = .returned (.bool false) ∧ w' = w := by
  have h1 : decide ((1048576 : Int) < (len : Int)) = false := by simp; omega
  go_enter Try.func9, Try.ntmps9
  go_wp2
  go_ret
  exact ⟨rfl, rfl⟩
set_option maxHeartbeats 400000 in
theorem big_yes (a : Option Addr) (len cap : Nat) (w : World) (hl : 1048576 < len) :
    Calls Try.prog 9 #[.slice a len cap] w fun e w' => e = .returned (.bool true) ∧ w' = w := by
  have h1 : decide ((1048576 : Int) < (len : Int)) = true := by simp; omega
  go_enter Try.func9, Try.ntmps9
  go_wp2
  go_ret
  exact ⟨rfl, rfl⟩

end Go.Proofs.Ytjleadlecdcdeaa

/-
  Three numbers in an array are the same as themselves.
-/
namespace Go.Proofs.Ytjleadlecdcdeaa
set_option linter.unusedVariables false
open Go.RowKit

theorem eqIn3 (x y z : Int) (w : World) : (Op.equalIn 10000 40 (.agg #[.int .i64 x, .int .i64 y, .int .i64 z]) (.agg #[.int .i64 x, .int .i64 y, .int .i64 z])).run Try.prog w = .ok true w := by
  have hu : Try.prog.underlying 40 = some (.array 3 3) := by kernel_rfl
  have hu3 : Try.prog.underlying 3 = some (.int .i64) := by kernel_rfl
  have hc : Try.prog.cellsOf 3 = 1 := by kernel_rfl
  have hi0 : (Try.prog.info? 3).isSome = true := by kernel_rfl
  obtain ⟨i, hi⟩ := Option.isSome_iff_exists.1 hi0
  have e1 : List.range 3 = [0, 1, 2] := rfl
  have st : ∀ (v : Int) (W : World), (Op.equalIn 9999 3 (.int .i64 v) (.int .i64 v)).run Try.prog W = .ok true W := fun v W => by
    rw [show (9999 : Nat) = 9998 + 1 from rfl, run_equalIn_int W 9998 _ _ _ _ _ hu3]
    simp
  rw [show (10000 : Nat) = 9999 + 1 from rfl, run_equalIn_array w 9999 _ _ hu hi, hc, e1]
  have pt : ∀ (k : Nat) (v : Int) (W : World), (#[Value.int .i64 x, .int .i64 y, .int .i64 z] : Array Value)[k * 1]? = some (.int .i64 v) → (part 3 #[Value.int .i64 x, .int .i64 y, .int .i64 z] (k * 1)).run Try.prog W = .ok (.int .i64 v) W := fun k v W h => by
    have h2 : ([Value.int .i64 x, .int .i64 y, .int .i64 z] : List Value)[k]? = some (.int .i64 v) := by simpa using h
    simp [part, go_sem, h2]
  simp only [Op.eqItems, Sem.run_bind, pt 0 x _ rfl, pt 1 y _ rfl, pt 2 z _ rfl, Result.andThen_ok, st, Sem.run_pure, Bool.not_true, Bool.false_eq_true, if_false]
end Go.Proofs.Ytjleadlecdcdeaa

/-
  Delimiters with a mark without a line end: they don't overlap. Plain.
-/
namespace Go.Proofs.Ytjleadlecdcdeaa
set_option linter.unusedVariables false
open Go.RowKit

/-- What a delimiter promises. -/
def GoodD (raw mark : List UInt8) (st to : Int) (d : Dl) : Prop :=
  st ≤ d.at' ∧ d.at' + (mark.length + 2) ≤ d.fin ∧ (d.fin : Int) ≤ to ∧ d.fin ≤ raw.length ∧ sub2 raw d.at' (d.at' + (mark.length + 2)) = 45 :: 45 :: mark ∧ ((d.at' : Int) = st ∨ ((2 ≤ d.at') ∧ sub2 raw (d.at' - 2) d.at' = [13, 10]))
/-- What a list of delimiters promises: none begins ahead of the one before's end, and none follows the closing one. -/
def GoodDs (raw mark : List UInt8) (st to : Int) : Nat → List Dl → Prop
  | _, [] => True
  | lo, d :: r => lo ≤ d.at' ∧ GoodD raw mark st to d ∧ (d.last = 1 → r = []) ∧ GoodDs raw mark st to d.fin r
theorem goodDs_lo {raw mark : List UInt8} {st to : Int} : ∀ {l : List Dl} {a b : Nat}, a ≤ b → GoodDs raw mark st to b l → GoodDs raw mark st to a l
  | [], _, _, _, h => h
  | d :: r, a, b, h, ⟨h1, h2⟩ => ⟨by omega, h2⟩
theorem skipB_blank (l : List UInt8) (to : Nat) : ∀ (n e k : Nat), e ≤ k → k < skipB l to n e → blankB (l.getD k 0) = true
  | 0, e, k, h1, h2 => by rw [skipB] at h2; omega
  | n + 1, e, k, h1, h2 => by
    rw [skipB] at h2
    split at h2
    · rename_i h3
      by_cases hk : k = e
      · rw [hk]; exact h3.2
      · exact skipB_blank l to n (e + 1) k (by omega) h2
    · omega
theorem blank_ten : blankB 10 = false := by decide
theorem getD_some {l : List UInt8} {k : Nat} {x : UInt8} (h : l[k]? = some x) : l.getD k 0 = x := by
  rw [List.getD_eq_getElem?_getD, h]; rfl
theorem delimEnd_no {raw : List UInt8} {a to e last : Nat} {d : Dl} (ht : to ≤ raw.length) (he : e ≤ to) (h : delimEnd raw a to e last = some d) : ∀ k, e ≤ k → k + 1 < d.fin → raw[k]? ≠ some 10 := by
  intro k h1 h2 h3
  have hle := skipB_le raw to (to - e) e he
  unfold delimEnd at h
  split at h
  · rename_i hq
    have e1 := Option.some.inj h
    subst e1
    have := skipB_blank raw to (to - e) e k h1 (by dsimp only at h2; omega)
    rw [getD_some h3, blank_ten] at this
    cases this
  · split at h
    · rename_i hq
      have e1 := Option.some.inj h
      subst e1
      dsimp only at h2
      by_cases hk : k < skipB raw to (to - e) e
      · have := skipB_blank raw to (to - e) e k h1 hk
        rw [getD_some h3, blank_ten] at this
        cases this
      · have hk2 : k = skipB raw to (to - e) e := by omega
        have := (sub2_pair raw (skipB raw to (to - e) e) 13 10 (by omega)).1 hq.2
        rw [← hk2, h3] at this
        cases this.1
    · cases h
theorem delimAt_no {raw : List UInt8} {a to : Nat} {mark : List UInt8} {d : Dl} (ht : to ≤ raw.length) (hm : ∀ x ∈ mark, x ≠ 10) (h : delimAt raw a to mark = some d) :
    sub2 raw a (a + (mark.length + 2)) = 45 :: 45 :: mark ∧ ∀ k, a ≤ k → k + 1 < d.fin → raw[k]? ≠ some 10 := by
  unfold delimAt at h
  split at h
  · cases h
  · rename_i h1
    have hs : sub2 raw a (a + (mark.length + 2)) = 45 :: 45 :: mark := by
      by_cases hc : sub2 raw a (a + (mark.length + 2)) = 45 :: 45 :: mark
      · exact hc
      · exact absurd (.inr hc) h1
    have hlen : a + (mark.length + 2) ≤ to := by
      by_cases hc : a + (mark.length + 2) ≤ to
      · exact hc
      · exact absurd (.inl (by omega)) h1
    have front : ∀ k, a ≤ k → k < a + (mark.length + 2) → raw[k]? ≠ some 10 := by
      intro k k1 k2 k3
      have := sub2_get raw a (a + (mark.length + 2)) (k - a) (by omega)
      rw [show a + (k - a) = k by omega, k3, hs] at this
      rcases Nat.lt_or_ge (k - a) 2 with hk | hk
      · rcases Nat.lt_or_ge (k - a) 1 with hk1 | hk1
        · rw [show k - a = 0 by omega] at this
          simp at this
        · rw [show k - a = 1 by omega] at this
          simp at this
      · obtain ⟨j, hj⟩ : ∃ j, k - a = j + 2 := ⟨k - a - 2, by omega⟩
        rw [hj] at this
        simp only [List.getElem?_cons_succ] at this
        exact hm 10 (List.mem_of_getElem? this) rfl
    refine ⟨hs, ?_⟩
    split at h
    · rename_i h2
      unfold twoMarks at h2
      rw [Bool.and_eq_true, decide_eq_true_iff, beq_iff_eq] at h2
      intro k k1 k2 k3
      rcases Nat.lt_or_ge k (a + (mark.length + 2)) with hk | hk
      · exact front k k1 hk k3
      · rcases Nat.lt_or_ge k (a + (mark.length + 2) + 2) with hk4 | hk4
        · have := (sub2_pair raw (a + (mark.length + 2)) 45 45 (by omega)).1 h2.2
          rcases Nat.lt_or_ge k (a + (mark.length + 2) + 1) with hk5 | hk5
          · rw [show a + (mark.length + 2) = k by omega, k3] at this
            cases this.1
          · rw [show a + (mark.length + 2) + 1 = k by omega, k3] at this
            cases this.2
        · exact delimEnd_no ht h2.1 h k hk4 k2 k3
    · intro k k1 k2 k3
      rcases Nat.lt_or_ge k (a + (mark.length + 2)) with hk | hk
      · exact front k k1 hk k3
      · exact delimEnd_no ht hlen h k hk k2 k3
theorem delimsF_good {raw mark : List UInt8} {st to : Nat} (ht : to ≤ raw.length) (hm : ∀ x ∈ mark, x ≠ 10) : ∀ (n a : Nat), to - a ≤ n → st ≤ a → GoodDs raw mark st to a (delimsF raw st to mark (to - a) a)
  | n, a, hn, ha => by
    rcases Nat.lt_or_ge a to with hc | hc
    · obtain ⟨m, rfl⟩ : ∃ m, n = m + 1 := ⟨n - 1, by omega⟩
      rw [delimsF_cons raw mark st to a hc]
      have next := goodDs_lo (Nat.le_succ a) (delimsF_good (st := st) (to := to) ht hm m (a + 1) (by omega) (by omega))
      split
      · rename_i hb
        split
        · exact next
        · rename_i d hd
          have hle := delimAt_le hd
          have hno := delimAt_no ht hm hd
          have hb2 := (begins raw st a (by omega)).1 hb
          have hG : GoodD raw mark st to d := by
            refine ⟨by omega, by omega, by omega, by omega, by rw [hle.1]; exact hno.1, ?_⟩
            rcases hb2 with hb2 | ⟨q1, q2, q3⟩
            · exact .inl (by rw [hle.1, hb2])
            · refine .inr ⟨by omega, ?_⟩
              rw [hle.1]
              have := (sub2_pair raw (a - 2) 13 10 (by omega)).2 ⟨q2, by rw [show a - 2 + 1 = a - 1 by omega]; exact q3⟩
              rw [show a - 2 + 2 = a by omega] at this
              exact this
          split
          · exact ⟨by omega, hG, fun _ => rfl, trivial⟩
          · rename_i hl
            refine ⟨by omega, hG, fun h => absurd h hl, ?_⟩
            rw [delimsF_skip raw mark st to (d.fin - (a + 1)) (a + 1) d.fin (by omega) (by omega) (fun k k1 k2 => by
              rw [Bool.eq_false_iff]
              intro hk
              rw [begins _ _ _ (by omega)] at hk
              rcases hk with rfl | ⟨_, _, q3⟩
              · omega
              · exact hno.2 (k - 1) (by omega) (by omega) q3)]
            exact delimsF_good ht hm m d.fin (by omega) (by omega)
      · exact next
    · rw [show to - a = 0 by omega, delimsF]
      trivial
theorem delimsL_good (s mk : ByteArray) (a b : Int) (hm : ∀ x ∈ mk.data.toList, x ≠ 10) : GoodDs s.data.toList mk.data.toList a b a.toNat (delimsL s.data.toList a b mk.data.toList) := by
  unfold delimsL
  split
  · trivial
  · rename_i h
    have := delimsF_good (raw := s.data.toList) (mark := mk.data.toList) (st := a.toNat) (to := b.toNat) (by omega) hm _ a.toNat (Nat.le_refl _) (Nat.le_refl _)
    rw [show ((a.toNat : Nat) : Int) = a by omega, show ((b.toNat : Nat) : Int) = b by omega] at this
    exact this
/-- What the k-th delimiter of a good list promises. -/
def loAt (a : Nat) (l : List Dl) : Nat → Nat
  | 0 => a
  | k + 1 => match l[k]? with
    | some d => d.fin
    | none => 0
theorem goodDs_at {raw mark : List UInt8} {st to : Int} : ∀ {l : List Dl} {a : Nat}, GoodDs raw mark st to a l → ∀ (k : Nat) (h : k < l.length), loAt a l k ≤ l[k].at' ∧ GoodD raw mark st to l[k] ∧ (l[k].last = 1 → k + 1 = l.length)
  | [], _, _, k, h => absurd h (by simp)
  | d :: r, a, ⟨h1, h2, h3, h4⟩, 0, h => ⟨h1, h2, fun e => by rw [h3 e]; rfl⟩
  | d :: r, a, ⟨h1, h2, h3, h4⟩, k + 1, h => by
    have := goodDs_at h4 k (by simpa using h)
    refine ⟨?_, this.2.1, fun e => ?_⟩
    · have q := this.1
      cases k with
      | zero => exact q
      | succ k => exact q
    · have := this.2.2 e
      simp only [List.length_cons]
      omega
end Go.Proofs.Ytjleadlecdcdeaa

/-
  The draw of Delims.
-/
namespace Go.Proofs.Ytjleadlecdcdeaa
set_option linter.unusedVariables false
open Go.RowKit

theorem pick_mem {K : Code} {w0 w : World} {g i : Nat} {h : Int} (c : Cur K w0 w g i h) (L : List ByteArray) {cs : Array Value} {n cap : Nat} (hcs : cs.toList = L.map Value.string) (hn : n = L.length) (h0 : 0 < n) (h9 : n ≤ 1000) :
    Calls Try.prog 47 #[.pointer (some ⟨g, 0, none⟩), .slice (some ⟨w.heap.size, 0, none⟩) n cap] (w.alloc (.cells cs 9)) (DrawnPick K w0 g L w) := by
  have hv := valsAt_new w (L.map Value.string) 9 n cap (by simp [hn])
  rw [← hcs] at hv
  simp only [Array.toArray_toList] at hv
  rw [hcs] at hv
  have hcl := c.lt
  refine (pick_any (c.later ((Below.refl _ _).alloc (Nat.le_refl _) _)) _ L hv (by simp [Value.ownBlock]; omega) (by omega) (by omega)).mono ?_
  rintro e w' ⟨s, i', h', e1, e2, e3, e4⟩
  exact ⟨s, i', h', e1, e2, e3, grownBy_trans (World.grownBy_alloc _ _ _) e4⟩
theorem results_tmp4 {fn : Func} {t u v x : Tmp} (h : fn.results = #[.tmp t, .tmp u, .tmp v, .tmp x]) (tmps : Array Value) (P : Program) (w : World) :
    (results fn tmps).run P w = .ok (.tuple #[tmps.getD t undef, tmps.getD u undef, tmps.getD v undef, tmps.getD x undef]) w := by
  simp [results, h]
/-- A letter is drawn, a stretch of it, and a mark without a line end. -/
def DrawsDl (w : World) (e : Ending) (w' : World) : Prop :=
  ∃ (s : ByteArray) (a b : Int) (mk : ByteArray), e = .returned (.tuple #[.string s, .int .i64 a, .int .i64 b, .string mk]) ∧ s.size ≤ 100000 ∧ (-1 ≤ a ∧ a ≤ 200000) ∧ (-1 ≤ b ∧ b ≤ 200000) ∧ mk.size ≤ 10 ∧ (∀ x ∈ mk.data.toList, x ≠ 10) ∧ Below w.heap.size w w'

set_option maxRecDepth 100000 in
set_option maxHeartbeats 2000000 in
theorem drawDelims_any (K : Code) (w0 w : World) (hr : IsRow .u8 w0 K.a K.len K.cap K.zs) (hl : K.len ≤ 1048576) (hb : Below w0.heap.size w0 w) :
    Calls Try.prog 14 #[.slice K.a K.len K.cap] w (DrawsDl w) := by
  go_enter Try.func14, Try.ntmps14
  go_wp2_with fail
  refine (new_any K w0 w hr hl hb).mono ?_
  rintro e w1 ⟨h1, rfl, hc1, hB1⟩
  have C1 := Lib.hid hc1
  have B1 := Lib.hid hB1
  clear hc1 hB1
  go_wp2_with fail
  refine (raw7_any 2 (by decide) C1.out).mono ?_
  rintro e w2 ⟨s, i2, h2, rfl, hs, hc2, hg2⟩
  have hsz : s.size ≤ 100000 := Nat.le_trans hs (by decide)
  have C2 := Lib.hid hc2
  have B2 := Lib.hid (below_step B1.out hg2 (Nat.le_refl _))
  clear hc2 hg2 hs
  go_wp2_with fail
  refine (below_any C2.out 6 (by decide) (by decide)).mono ?_
  rintro e w3 ⟨n0, i3, h3, rfl, hn0, hn1, hc3, hg3, _⟩
  obtain ⟨n, rfl⟩ := Int.eq_ofNat_of_zero_le hn0
  have hn5 : n ≤ 5 := by omega
  have C3 := Lib.hid hc3
  have B3 := Lib.hid (below_step B2.out hg3 (Nat.le_refl _))
  clear hc3 hg3 hn0 hn1
  have f1 : wrap64 ((s.size : Int) + 1) = (s.size : Int) + 1 := by unfold wrap64; omega
  have hc : n = 0 ∨ n = 1 ∨ n = 2 ∨ (n ≠ 0 ∧ n ≠ 1 ∧ n ≠ 2) := by omega
  rcases hc with rfl | rfl | rfl | ⟨e0, e1, e2⟩
  · dsimp only
    go_wp2_with fail
    refine (pickInt_lit C3.out [-1, 1, (s.size : Int), (s.size : Int) + 1] (fun x => -1 ≤ x ∧ x ≤ 200000) (fun x hx => by
      simp only [List.mem_cons, List.not_mem_nil, or_false] at hx
      rcases hx with rfl | rfl | rfl | rfl <;> omega) rfl rfl (by show 0 < 4; decide) (by show 4 ≤ 1000; decide)).mono ?_
    rintro e w4 ⟨x, i4, h4, rfl, hx, hc4, hg4⟩
    have C4 := Lib.hid hc4
    have B4 := Lib.hid (below_step B3.out hg4 (Nat.le_refl _))
    clear hc4 hg4
    go_wp2_with fail
    refine (pick_mem C4.out [⟨#[98]⟩, ⟨#[98]⟩, ⟨#[98, 98]⟩, ⟨#[120, 32, 121]⟩, ⟨#[]⟩] rfl rfl (by decide) (by decide)).mono ?_
    rintro e w9 ⟨mk, i9, h9, rfl, hmk, hc9, hg9⟩
    have B9 := Lib.hid (below_step B4.out hg9 (Nat.le_refl _))
    have hmk2 : mk.size ≤ 10 ∧ ∀ x ∈ mk.data.toList, x ≠ 10 := by
      simp only [List.mem_cons, List.not_mem_nil, or_false] at hmk
      rcases hmk with rfl | rfl | rfl | rfl | rfl <;> decide
    clear hc9 hg9 hmk
    go_wp2_with fail
    (try simp only [Exit.inBlock, Exit.then])
    refine bodyPost_ret (results_tmp4 rfl _ _ _) rfl ?_
    exact ⟨s, x, _, mk, rfl, hsz, hx, by omega, hmk2.1, hmk2.2, B9.out⟩
  · dsimp only
    go_wp2_with fail
    refine (pickInt_lit C3.out [-1, 1, (s.size : Int) + 1, (s.size : Int) / 2] (fun x => -1 ≤ x ∧ x ≤ 200000) (fun x hx => by
      simp only [List.mem_cons, List.not_mem_nil, or_false] at hx
      rcases hx with rfl | rfl | rfl | rfl <;> omega) rfl rfl (by show 0 < 4; decide) (by show 4 ≤ 1000; decide)).mono ?_
    rintro e w4 ⟨x, i4, h4, rfl, hx, hc4, hg4⟩
    have C4 := Lib.hid hc4
    have B4 := Lib.hid (below_step B3.out hg4 (Nat.le_refl _))
    clear hc4 hg4
    go_wp2_with fail
    refine (pick_mem C4.out [⟨#[98]⟩, ⟨#[98]⟩, ⟨#[98, 98]⟩, ⟨#[120, 32, 121]⟩, ⟨#[]⟩] rfl rfl (by decide) (by decide)).mono ?_
    rintro e w9 ⟨mk, i9, h9, rfl, hmk, hc9, hg9⟩
    have B9 := Lib.hid (below_step B4.out hg9 (Nat.le_refl _))
    have hmk2 : mk.size ≤ 10 ∧ ∀ x ∈ mk.data.toList, x ≠ 10 := by
      simp only [List.mem_cons, List.not_mem_nil, or_false] at hmk
      rcases hmk with rfl | rfl | rfl | rfl | rfl <;> decide
    clear hc9 hg9 hmk
    go_wp2_with fail
    (try simp only [Exit.inBlock, Exit.then])
    refine bodyPost_ret (results_tmp4 rfl _ _ _) rfl ?_
    exact ⟨s, _, x, mk, rfl, hsz, by omega, hx, hmk2.1, hmk2.2, B9.out⟩
  · dsimp only
    go_wp2_with fail
    refine (specHead_any s w3 (by omega)).mono ?_
    rintro e w4 ⟨rfl, hw4⟩
    rw [hw4]
    clear hw4 w4
    have hh := headN_le s.data.toList
    rw [show s.data.toList.length = s.size by simp] at hh
    generalize headN s.data.toList = hN at *
    go_wp2_with fail
    refine (pick_mem C3.out [⟨#[98]⟩, ⟨#[98]⟩, ⟨#[98, 98]⟩, ⟨#[120, 32, 121]⟩, ⟨#[]⟩] rfl rfl (by decide) (by decide)).mono ?_
    rintro e w9 ⟨mk, i9, h9, rfl, hmk, hc9, hg9⟩
    have B9 := Lib.hid (below_step B3.out hg9 (Nat.le_refl _))
    have hmk2 : mk.size ≤ 10 ∧ ∀ x ∈ mk.data.toList, x ≠ 10 := by
      simp only [List.mem_cons, List.not_mem_nil, or_false] at hmk
      rcases hmk with rfl | rfl | rfl | rfl | rfl <;> decide
    clear hc9 hg9 hmk
    go_wp2_with fail
    (try simp only [Exit.inBlock, Exit.then])
    refine bodyPost_ret (results_tmp4 rfl _ _ _) rfl ?_
    exact ⟨s, _, _, mk, rfl, hsz, by omega, by omega, hmk2.1, hmk2.2, B9.out⟩
  · dsimp only
    have g0 : ((n : Int) == 0) = false := by rw [beq_eq_false_iff_ne]; omega
    have g1 : ((n : Int) == 1) = false := by rw [beq_eq_false_iff_ne]; omega
    have g2 : ((n : Int) == 2) = false := by rw [beq_eq_false_iff_ne]; omega
    go_wp2_with fail
    refine (pick_mem C3.out [⟨#[98]⟩, ⟨#[98]⟩, ⟨#[98, 98]⟩, ⟨#[120, 32, 121]⟩, ⟨#[]⟩] rfl rfl (by decide) (by decide)).mono ?_
    rintro e w9 ⟨mk, i9, h9, rfl, hmk, hc9, hg9⟩
    have B9 := Lib.hid (below_step B3.out hg9 (Nat.le_refl _))
    have hmk2 : mk.size ≤ 10 ∧ ∀ x ∈ mk.data.toList, x ≠ 10 := by
      simp only [List.mem_cons, List.not_mem_nil, or_false] at hmk
      rcases hmk with rfl | rfl | rfl | rfl | rfl <;> decide
    clear hc9 hg9 hmk
    go_wp2_with fail
    (try simp only [Exit.inBlock, Exit.then])
    refine bodyPost_ret (results_tmp4 rfl _ _ _) rfl ?_
    exact ⟨s, _, _, mk, rfl, hsz, by omega, by omega, hmk2.1, hmk2.2, B9.out⟩
end Go.Proofs.Ytjleadlecdcdeaa

/-
  FnDelims: the walk of the law.
-/
namespace Go.Proofs.Ytjleadlecdcdeaa
set_option linter.unusedVariables false
open Go.RowKit

theorem below_drewDl {B : Nat} {a b : World} (h : Below B a b) (n : Nat) : Below B a (b.drewN n) := ⟨h.os, h.tape, h.output, h.size, h.block⟩
theorem wrapDl (x : Int) (h : 0 ≤ x ∧ x ≤ 1000000) : wrap64 x = x := by unfold wrap64; omega

set_option maxRecDepth 100000 in
set_option maxHeartbeats 1000000 in
theorem lawDelims_walk (ID : DelimsIs) (a0 : Option Addr) (len0 cap0 : Nat) (z0 : List Int) (w : World) (w0 : IsRow .u8 w a0 len0 cap0 z0) (hsh : w.ShapedOpen Try.prog) :
    Calls Try.prog 4 #[.slice a0 len0 cap0] w fun e w' => e = .returned (.bool true) ∧ Below w.heap.size w w' := by
  have W0 := Lib.hid w0
  have HM := Lib.hid (maxLenAt_of_shaped hsh)
  clear w0 hsh
  by_cases hl : len0 ≤ 1048576
  · go_enter Try.func4, Try.ntmps4
    go_wp2_with fail
    refine (big_no _ _ _ _ hl).mono ?_
    rintro e w1 ⟨rfl, rfl⟩
    go_wp2_with fail
    refine (drawDelims_any ⟨a0, len0, cap0, z0⟩ w1 w1 W0.out hl (Below.refl _ _)).mono ?_
    rintro e w2 ⟨s, a, b, mk, rfl, hs, ha, hb, hmk, hnl, hB2⟩
    have B2 := Lib.hid hB2
    have M2 := Lib.hid (HM.out.after hB2)
    have SZ := Lib.hid (show s.size ≤ 100000 ∧ mk.size ≤ 10 ∧ (-1 ≤ a ∧ a ≤ 200000) ∧ (-1 ≤ b ∧ b ≤ 200000) from ⟨hs, hmk, ha, hb⟩)
    have GD := Lib.hid (delimsL_good s mk a b hnl)
    have hn := delimsL_len s.data.toList mk.data.toList a b
    have hsl : s.data.toList.length = s.size := by simp
    rw [hsl] at hn
    have H1 := Lib.hid (fun w => specDelims_any s a b mk w (by omega) (by omega) (by omega) (by omega))
    have H2 := Lib.hid (ID s a b mk w2 M2.out (by omega) (by omega) (by omega) (by omega))
    have HE : Hid (mk.size = 0 → (delimsL s.data.toList a b mk.data.toList).length = 0) := Lib.hid (fun h => by
      unfold delimsL
      rw [if_pos (by have : mk.data.toList.length = mk.size := by simp
                     omega)]
      rfl)
    generalize delimsL s.data.toList a b mk.data.toList = l at H1 H2 hn GD HE
    clear hB2 hsl hs hmk ha hb hnl ID HM
    go_wp2_with fail
    refine H2.out.mono ?_
    rintro e w3 ⟨va, rfl, hra, hB3⟩
    have RA3 := Lib.hid hra
    have B3 := Lib.hid (B2.out.trans (hB3.mono B2.out.size))
    clear hra hB3 H2
    go_wp2_with fail
    refine (H1.out _).mono ?_
    rintro e w4 ⟨vb, rfl, hrb, hB4⟩
    have RB4 := Lib.hid (cellsAt_row hrb)
    have RA4 := Lib.hid (cellsAt_row (row_lat RA3.out hB4))
    have B4 := Lib.hid (B3.out.trans (hB4.mono B3.out.size))
    clear hrb hB4 H1 RA3
    have hlen : (dlCells l).length = l.length * 3 := dlCells_len l
    by_cases h0 : l.length = 0
    · obtain ⟨pa, ca, rfl⟩ := RA4.out.slice
      obtain ⟨pb, cb, rfl⟩ := RB4.out.slice
      clear RA4 RB4 GD HE hn hlen
      generalize l.length = n at *
      subst h0
      go_wp2_with fail
      go_loopw [10] (fun i wr => i = .int .i64 0 ∧ Below w1.heap.size w1 wr) (fun _ _ => 0)
      case atStart => exact ⟨rfl, B4.out⟩
      case round =>
        obtain ⟨rfl, hq⟩ := hrel
        have HQ := Lib.hid hq
        clear hq
        go_wp2_with fail
        all_goals
          go_ret
          exact ⟨rfl, HQ.out⟩
    · have hm : mk.size ≠ 0 := fun h => h0 (HE.out h)
      have m1 : ¬ mk.toList = [] := fun h => hm (by have h2 := congrArg List.length h; rw [Lib.toList_data] at h2; simpa using h2)
      have m2 : mk.isEmpty = false := by simpa [ByteArray.isEmpty] using hm
      clear HE
      obtain ⟨ga, oa, ca, rfl, hga, hca⟩ : ∃ g off cap, va = .slice (some ⟨g, off, none⟩) l.length cap ∧ g < w4.heap.size ∧ ∀ i, i < (dlCells l).length → w4.cell? ⟨g, off + i, none⟩ = (dlCells l)[i]? := by
        rcases RA4.out with ⟨h, _⟩ | h
        · exact absurd h h0
        · exact h
      obtain ⟨gb, ob, cb, rfl, hgb, hcb⟩ : ∃ g off cap, vb = .slice (some ⟨g, off, none⟩) l.length cap ∧ g < w4.heap.size ∧ ∀ i, i < (dlCells l).length → w4.cell? ⟨g, off + i, none⟩ = (dlCells l)[i]? := by
        rcases RB4.out with ⟨h, _⟩ | h
        · exact absurd h h0
        · exact h
      have CA := Lib.hid hca
      have CB := Lib.hid hcb
      clear hca hcb RA4 RB4 hlen
      have hn2 : l.length ≤ 100000 := by have := SZ.out; omega
      generalize hN : l.length = n at *
      have HN := Lib.hid hN
      clear hN hn
      go_wp2_with fail
      go_loopw [9, 10] (fun la i wr => ∃ k : Nat, k ≤ n ∧ i = .int .i64 k ∧ (∃ lo : Int, la = .int .i64 lo ∧ (k < n → lo ≤ (loAt a.toNat l k : Int))) ∧ Below w4.heap.size w4 wr) (fun la i _ => n - (intOf i).toNat)
      case atStart => exact ⟨0, Nat.zero_le _, rfl, ⟨_, rfl, fun _ => by show a ≤ ((a.toNat : Nat) : Int); omega⟩, Below.refl _ _⟩
      case round =>
        obtain ⟨k, hk, rfl, ⟨lo, rfl, hlo⟩, hq⟩ := hrel
        by_cases hlt : k < n
        · have hlk : k < l.length := by rw [HN.out]; exact hlt
          have good := goodDs_at GD.out k hlk
          have at3 := dlCells_at l k hlk
          have lc : (dlCells l).length = l.length * 3 := dlCells_len l
          have x1 := CA.out (k * 3) (by omega)
          have x2 := CA.out (k * 3 + 1) (by omega)
          have x3 := CA.out (k * 3 + 2) (by omega)
          have y1 := CB.out (k * 3) (by omega)
          have y2 := CB.out (k * 3 + 1) (by omega)
          have y3 := CB.out (k * 3 + 2) (by omega)
          rw [at3.1] at x1 y1
          rw [at3.2.1] at x2 y2
          rw [at3.2.2] at x3 y3
          clear at3 lc
          have hlo2 := hlo hlt
          obtain ⟨g1, g2, g3⟩ := good
          have hnx : loAt a.toNat l (k + 1) = l[k].fin := by
            simp only [loAt, List.getElem?_eq_getElem hlk]
          rw [HN.out] at g3
          generalize l[k] = d at *
          obtain ⟨da, df, dt⟩ := d
          unfold GoodD at g2
          dsimp only at x1 x2 x3 y1 y2 y3 g1 g2 g3 hnx
          rw [← hq.cell (p := ⟨ga, oa + k * 3, none⟩) hga] at x1
          rw [← hq.cell (p := ⟨gb, ob + k * 3, none⟩) hgb] at y1
          rw [← Nat.add_assoc, ← hq.cell (p := ⟨ga, oa + k * 3 + 1, none⟩) hga] at x2
          rw [← Nat.add_assoc, ← hq.cell (p := ⟨gb, ob + k * 3 + 1, none⟩) hgb] at y2
          rw [← Nat.add_assoc, ← hq.cell (p := ⟨ga, oa + k * 3 + 2, none⟩) hga] at x3
          rw [← Nat.add_assoc, ← hq.cell (p := ⟨gb, ob + k * 3 + 2, none⟩) hgb] at y3
          have i1 : (0 : Int) ≤ (k : Int) := by omega
          have i2 : (k : Int) < (n : Int) := by omega
          have HQ := Lib.hid hq
          clear hq hlo
          have hgaw : ga < wr.heap.size := by have := HQ.out.size; omega
          have hgbw : gb < wr.heap.size := by have := HQ.out.size; omega
          have G1 := Lib.hid g1
          have G2 := Lib.hid g2
          have G3 := Lib.hid g3
          have HNX := Lib.hid hnx
          have HLO := Lib.hid hlo2
          clear g1 g2 g3 hnx hlo2
          go_wp2_with fail
          have hsl : s.data.toList.length = s.size := by simp
          have hml : mk.data.toList.length = mk.size := by simp
          obtain ⟨q1, q2, q3, q4, q5, q6⟩ := G2.out
          have SX : Hid (((s.extract da (da + 2 + mk.size)).toList == (({ data := #[45, 45] } : ByteArray) ++ mk).toList) = true) := Lib.hid (by
            have e1 : (s.extract da (da + 2 + mk.size)).toList = 45 :: 45 :: mk.data.toList := by
              rw [ext_list, ← q5, hml, show da + 2 + mk.size = da + (mk.size + 2) by omega]
            have e2 : (({ data := #[45, 45] } : ByteArray) ++ mk).toList = 45 :: 45 :: mk.data.toList := by
              rw [Lib.toList_data]
              simp
            rw [e1, e2]
            exact beq_self_eq_true _)
          have HLT := Lib.hid hlt
          rw [hsl] at q4
          rw [hml] at q2
          have hss := SZ.out.1
          have hmm := SZ.out.2.1
          have hld : lo ≤ (da : Int) := Int.le_trans HLO.out (Int.ofNat_le.2 G1.out)
          clear hsl hml
          obtain ⟨wq, hwq⟩ : ∃ wq, wq = wr.alloc (.cells #[.int .i64 da, .int .i64 df, .int .i64 dt] 40) := ⟨_, rfl⟩
          have hBq : Below wr.heap.size wr wq := by rw [hwq]; exact (Below.refl _ _).alloc (Nat.le_refl _) _
          have t3 := three_cells (new_three wr (.int .i64 da) (.int .i64 df) (.int .i64 dt) 40)
          rw [← hwq] at t3 ⊢
          obtain ⟨t1, t2, t3⟩ := t3
          rw [← hBq.cell (p := ⟨gb, ob + k * 3, none⟩) hgbw] at y1
          rw [← hBq.cell (p := ⟨gb, ob + k * 3 + 1, none⟩) hgbw] at y2
          rw [← hBq.cell (p := ⟨gb, ob + k * 3 + 2, none⟩) hgbw] at y3
          have BQ := Lib.hid hBq
          clear hwq hBq x1 x2 x3
          have n1 : decide ((da : Int) < lo) = false := by simp; omega
          have n2 : decide ((df : Int) ≤ (da : Int)) = false := by simp; omega
          have n3 : decide (b < (df : Int)) = false := by simp; omega
          have F1 := Lib.hid (wrapDl ((da : Int) + 2) (by omega))
          have F2 := Lib.hid (wrapDl ((da : Int) + 2 + (mk.size : Int)) (by omega))
          have j1 : (0 : Int) ≤ (da : Int) := by omega
          have j2 : (da : Int) ≤ (da : Int) + 2 + (mk.size : Int) := by omega
          have j3 : (da : Int) + 2 + (mk.size : Int) ≤ (s.size : Int) := by omega
          have j4 : ¬ 9223372036854775807 < 2 + mk.size := by omega
          have k1 : ((k : Int) + 1) ≤ 9223372036854775807 := by omega
          have n2' : decide (df ≤ da) = false := by simp; omega
          have b1 : da + (mk.size + 2) ≤ 100000 := by omega
          have b2 : da + (mk.size + 2) ≤ s.size := by omega
          by_cases hda : (da : Int) = a
          · have n4 : decide (a < (da : Int)) = false := by simp; omega
            clear hda q6 q1 q2 q3 q4 q5 hss hmm hld hlt hlk hk hgaw hgbw
            by_cases hdt : dt = 1
            · have n5 : ((dt : Int) == 1) = true := by rw [hdt]; rfl
              have n6 : decide ((k : Int) + 1 < (n : Int)) = false := by have := G3.out hdt; simp; omega
              have n5' : (dt == 1) = true := by rw [hdt]; rfl
              have n6' : decide (k + 1 < n) = false := by have := G3.out hdt; simp; omega
              clear hdt
              have EQ := eqIn3 (da : Int) (df : Int) (dt : Int)
              have SE := SX.out
              simp only [List.append]
              refine wp_region_quiet_lit (by kernel_rfl) (by kernel_rfl) ?_
              repeat (go_big_quiet_step (fail))
              refine wpQuiet_nil ?_
              intro _ hw'
              obtain ⟨nq, rfl⟩ := hw'
              clear EQ SE
              go_wp2_with fail
              go_roundw
              case rel => exact ⟨k + 1, by have := HLT.out; omega, by go_num, ⟨_, rfl, fun _ => by rw [HNX.out]; exact Int.le_refl _⟩, below_drewDl (HQ.out.trans (BQ.out.mono HQ.out.size)) _⟩
              case measure => have := HLT.out; simp [intOf]; omega
            · skip
              have n5 : ((dt : Int) == 1) = false := by rw [beq_eq_false_iff_ne]; omega
              have n5' : (dt == 1) = false := by rw [beq_eq_false_iff_ne]; exact hdt
              clear hdt
              have EQ := eqIn3 (da : Int) (df : Int) (dt : Int)
              have SE := SX.out
              simp only [List.append]
              refine wp_region_quiet_lit (by kernel_rfl) (by kernel_rfl) ?_
              repeat (go_big_quiet_step (fail))
              refine wpQuiet_nil ?_
              intro _ hw'
              obtain ⟨nq, rfl⟩ := hw'
              clear EQ SE
              go_wp2_with fail
              go_roundw
              case rel => exact ⟨k + 1, by have := HLT.out; omega, by go_num, ⟨_, rfl, fun _ => by rw [HNX.out]; exact Int.le_refl _⟩, below_drewDl (HQ.out.trans (BQ.out.mono HQ.out.size)) _⟩
              case measure => have := HLT.out; simp [intOf]; omega
          · have n4 : decide (a < (da : Int)) = true := by simp; omega
            have p6 : 2 ≤ da := by
              rcases q6 with h | h
              · exact absurd h hda
              · exact h.1
            have S2 : Hid (((s.extract (da - 2) da).toList == [13, 10]) = true) := Lib.hid (by
              rcases q6 with h | h
              · exact absurd h hda
              · rw [ext_list, h.2]; rfl)
            clear hda q6 q1 q2 q3 q4 q5 hss hmm hld hlt hlk hk hgaw hgbw
            by_cases hdt : dt = 1
            · have n5 : ((dt : Int) == 1) = true := by rw [hdt]; rfl
              have n6 : decide ((k : Int) + 1 < (n : Int)) = false := by have := G3.out hdt; simp; omega
              have n5' : (dt == 1) = true := by rw [hdt]; rfl
              have n6' : decide (k + 1 < n) = false := by have := G3.out hdt; simp; omega
              clear hdt
              have EQ := eqIn3 (da : Int) (df : Int) (dt : Int)
              have SE := SX.out
              have SE2 := S2.out
              simp only [List.append]
              refine wp_region_quiet_lit (by kernel_rfl) (by kernel_rfl) ?_
              repeat (go_big_quiet_step (fail))
              refine wpQuiet_nil ?_
              intro _ hw'
              obtain ⟨nq, rfl⟩ := hw'
              clear EQ SE SE2
              go_wp2_with fail
              go_roundw
              case rel => exact ⟨k + 1, by have := HLT.out; omega, by go_num, ⟨_, rfl, fun _ => by rw [HNX.out]; exact Int.le_refl _⟩, below_drewDl (HQ.out.trans (BQ.out.mono HQ.out.size)) _⟩
              case measure => have := HLT.out; simp [intOf]; omega
            · skip
              have n5 : ((dt : Int) == 1) = false := by rw [beq_eq_false_iff_ne]; omega
              have n5' : (dt == 1) = false := by rw [beq_eq_false_iff_ne]; exact hdt
              clear hdt
              have EQ := eqIn3 (da : Int) (df : Int) (dt : Int)
              have SE := SX.out
              have SE2 := S2.out
              simp only [List.append]
              refine wp_region_quiet_lit (by kernel_rfl) (by kernel_rfl) ?_
              repeat (go_big_quiet_step (fail))
              refine wpQuiet_nil ?_
              intro _ hw'
              obtain ⟨nq, rfl⟩ := hw'
              clear EQ SE SE2
              go_wp2_with fail
              go_roundw
              case rel => exact ⟨k + 1, by have := HLT.out; omega, by go_num, ⟨_, rfl, fun _ => by rw [HNX.out]; exact Int.le_refl _⟩, below_drewDl (HQ.out.trans (BQ.out.mono HQ.out.size)) _⟩
              case measure => have := HLT.out; simp [intOf]; omega
        · obtain rfl : k = n := by omega
          have HQ := Lib.hid (B4.out.trans (hq.mono B4.out.size))
          clear hq
          go_wp2_with fail
          go_ret
          exact ⟨rfl, HQ.out⟩
  · go_enter Try.func4, Try.ntmps4
    go_wp2_with fail
    refine (big_yes _ _ _ _ (by omega)).mono ?_
    rintro e w1 ⟨rfl, rfl⟩
    go_wp2
    go_ret
    exact ⟨rfl, Below.refl _ _⟩
end Go.Proofs.Ytjleadlecdcdeaa
