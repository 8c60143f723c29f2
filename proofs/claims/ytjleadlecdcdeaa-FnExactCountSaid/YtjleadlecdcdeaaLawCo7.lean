/-
  Parts: the exact law on Count.
-/
import Derived.Test.YtjleadlecdcdeaaCtI
import Derived.Test.YtjleadlecdcdeaaCtS
import Derived.Test.YtjleadlecdcdeaaPtV
import Derived.Test.YtjleadlecdcdeaaPtE
import Derived.Test.YtjleadlecdcdeaaKdO
namespace Go.Proofs.Ytjleadlecdcdeaa
set_option linter.unusedVariables false
open Go.RowKit

theorem came_lies {w : World} : ∀ (n : Nat) (t : Lt), t.size ≤ n → Came w t → Small t → Lies w n t
  | 0, t, hn, _, _ => by have := t.size_eq; omega
  | n + 1, t, hn, hc, hs => by
    have hse := t.size_eq
    cases hc with
    | mk _ h1 h2 hp hk hl hx =>
      cases hs with
      | mk _ s1 s2 s3 =>
        obtain ⟨a, len, cap, hpv, hps⟩ := hp
        refine ⟨⟨by omega, by omega⟩, by rw [hpv]; exact hps.1, hk, fun x hxm => came_lies n x ?_ (hx x hxm) (s3 x hxm)⟩
        have := sizesL_mem hxm
        omega
theorem size_tree : ∀ (n : Nat) (a b : Lt), a.size ≤ n → a.tree = b.tree → a.size = b.size
  | 0, a, b, hn, _ => by have := a.size_eq; omega
  | n + 1, a, b, hn, ht => by
    have ha := a.size_eq
    have hb := b.size_eq
    rw [a.tree_eq, b.tree_eq] at ht
    injection ht with _ _ _ _ hk
    have hlen : a.kids.length = b.kids.length := by simpa using congrArg List.length hk
    have key : ∀ (la lb : List Lt), (∀ x ∈ la, x.size ≤ n) → la.map Lt.tree = lb.map Lt.tree → sizesL la = sizesL lb := by
      intro la
      induction la with
      | nil => intro lb _ h; cases lb with | nil => rfl | cons y r => cases h
      | cons x r ih =>
        intro lb hx h
        cases lb with
        | nil => cases h
        | cons y r' =>
          simp only [List.map_cons, List.cons.injEq] at h
          have h1 := size_tree n x y (hx x (by simp)) h.1
          have h2 := ih r' (fun z hz => hx z (by simp [hz])) h.2
          show x.size + sizesL r = y.size + sizesL r'
          omega
    have := key a.kids b.kids (fun x hx => by have := sizesL_mem hx; omega) hk
    omega
theorem ptV_open {w : World} {B n : Nat} {t : Lt} (h : Holds w B n t) : ∃ (T1 T2 : ByteArray) (pp : Option Addr) (pl pc : Nat) (i1 i2 i3 : Int) (kp : Option Addr) (kl kc : Nat), ptV t = .agg #[.string T1, .string T2, .slice pp pl pc, .int .i64 i1, .int .i64 i2, .int .i64 i3, .slice kp kl kc] := by
  cases n with
  | zero => exact h.elim
  | succ n =>
    obtain ⟨pp, pc, e1⟩ := row_slice h.2.1
    obtain ⟨kp, kc, e2⟩ := row_slice h.2.2.1
    exact ⟨mkB t.kind.type, mkB t.kind.sub, pp, _, pc, t.head, t.body, t.fin, kp, _, kc, by unfold ptV; rw [e1, e2]⟩

set_option maxRecDepth 100000 in
set_option maxHeartbeats 2000000 in
theorem exactCount_walk (t : Lt) (w : World) (hc : Came w t) :
    Calls Try.prog 8 #[ptV t] w fun e w' => e = .returned (.bool true) ∧ Below w.heap.size w w' := by
  obtain ⟨n, hn⟩ : ∃ n, t.size = n := ⟨_, rfl⟩
  have SZ := Lib.hid (fun W (hB : Below w.heap.size w W) => szPt_any n t 1048576 W (by omega) (hc.later hB (Nat.le_refl _)) (by decide) (by decide))
  have TF := Lib.hid (fun W (hB : Below w.heap.size w W) (hs : Small t) => toPt_any n t W (came_lies n t (by omega) (hc.later hB (Nat.le_refl _)) hs) hs)
  have HSZ : Hid (∀ t' : Lt, t'.tree = t.tree → t'.size = n) := Lib.hid (fun t' h => by rw [← hn]; exact (size_tree n t t' (by omega) h.symm).symm)
  obtain ⟨TT, hTT⟩ : ∃ TT, t.tree = TT := ⟨_, rfl⟩
  rw [hTT] at TF HSZ
  obtain ⟨a, len, cap, hpv⟩ : ∃ a len cap, t.pv = .slice a len cap := by
    cases hc with
    | mk _ _ _ hp _ _ _ => obtain ⟨a, len, cap, e, _⟩ := hp; exact ⟨a, len, cap, e⟩
  obtain ⟨kp, kc, hkv⟩ : ∃ p c, t.kv = .slice p t.kids.length c := by
    cases hc with
    | mk _ _ _ _ hk _ _ => exact hk.slice
  obtain ⟨V, hV⟩ : ∃ V, ptV t = V := ⟨_, rfl⟩
  have hVe : V = .agg #[.string (mkB t.kind.type), .string (mkB t.kind.sub), .slice a len cap, .int .i64 t.head, .int .i64 t.body, .int .i64 t.fin, .slice kp t.kids.length kc] := by rw [← hV]; unfold ptV; rw [hpv, hkv]
  rw [hV] at SZ TF ⊢
  clear hV hpv hkv hTT hc
  have SM : Hid (∀ r : Int, (0 ≤ r → Small t ∧ (t.size : Int) - 1 + r ≤ 1048576) → 0 ≤ r → Small t ∧ n ≤ 10000000) := Lib.hid (fun r h h0 => by
    obtain ⟨h1, h2⟩ := h h0
    exact ⟨h1, by omega⟩)
  unfold SzW at SZ
  generalize mkB t.kind.type = U1 at hVe
  generalize mkB t.kind.sub = U2 at hVe
  generalize t.head = i1 at hVe
  generalize t.body = i2 at hVe
  generalize t.fin = i3 at hVe
  generalize t.kids.length = kl at hVe
  subst hVe
  have N0 := Lib.hid (seven_new w (.string U1) (.string U2) (.slice a len cap) (.int .i64 i1) (.int .i64 i2) (.int .i64 i3) (.slice kp kl kc) 55)
  have B0 : Hid (Below w.heap.size w (w.alloc (.cells #[.string U1, .string U2, .slice a len cap, .int .i64 i1, .int .i64 i2, .int .i64 i3, .slice kp kl kc] 55))) := Lib.hid ((Below.refl _ _).alloc (Nat.le_refl _) _)
  go_enter Try.func8, Try.ntmps8
  go_wp2_with fail
  obtain ⟨W0, hW0⟩ : ∃ x, w.alloc (.cells #[.string U1, .string U2, .slice a len cap, .int .i64 i1, .int .i64 i2, .int .i64 i3, .slice kp kl kc] 55) = x := ⟨_, rfl⟩
  rw [hW0] at N0 B0 ⊢
  clear hW0
  refine (SZ.out _ B0.out).mono ?_
  rintro e w1 ⟨⟨r, rfl, hr1, hr2, hr3⟩, hB1⟩
  have B1 := Lib.hid (B0.out.trans (hB1.mono B0.out.size))
  have N1 := Lib.hid ((hB1.block _ (Array.getElem?_eq_some_iff.1 N0.out).1).trans N0.out)
  have H3 := Lib.hid (SM.out r hr3)
  obtain ⟨_, _, _, _, _, _, _⟩ := seven_cells N1.out
  clear hB1 hr3
  by_cases hneg : r < 0
  · have g1 : decide (r < 0) = true := by simpa using hneg
    clear hneg
    go_wp2_with fail
    go_ret
    exact ⟨rfl, B1.out⟩
  · have g1 : decide (r < 0) = false := by simpa using hneg
    obtain ⟨hsm, hnb⟩ := H3.out (by omega)
    have HS := Lib.hid hsm
    clear hneg hr1 hr2 H3 SZ SM hsm
    go_wp2_with fail
    refine (TF.out _ B1.out HS.out).mono ?_
    rintro e w2 ⟨t2, rfl, ht2, hh2, hd2, hB2⟩
    have CNT := Lib.hid (specCount_any n t2 w2 (Holds.lies n t2 hh2) (by rw [HSZ.out t2 ht2]; exact hnb))
    rw [HSZ.out t2 ht2] at CNT
    obtain ⟨T1, T2, pp, pl, pc, k1, k2, k3, qp, ql, qc, ho⟩ := ptV_open hh2
    rw [ho] at CNT ⊢
    have B2 := Lib.hid (B1.out.trans (hB2.mono B1.out.size))
    have N2 := Lib.hid ((hB2.block _ (Array.getElem?_eq_some_iff.1 N1.out).1).trans N1.out)
    clear hB2 ho hh2 hd2 ht2
    go_wp2_with fail
    refine CNT.out.mono ?_
    rintro e w3 ⟨rfl, hB3⟩
    have B3 := Lib.hid (B2.out.trans (hB3.mono B2.out.size))
    have N3 := Lib.hid ((hB3.block _ (Array.getElem?_eq_some_iff.1 N2.out).1).trans N2.out)
    obtain ⟨_, _, _, _, _, _, _⟩ := seven_cells N3.out
    clear hB3 CNT
    go_wp2_with fail
    refine (TF.out _ B3.out HS.out).mono ?_
    rintro e w4 ⟨t4, rfl, ht4, hh4, hd4, hB4⟩
    obtain ⟨C1, C2, rp, rl, rc, l1, l2, l3, sp, sl, sc, ho⟩ := ptV_open hh4
    have D4 : Below w4.heap.size w4 (w4.alloc (.cells #[.string C1, .string C2, .slice rp rl rc, .int .i64 l1, .int .i64 l2, .int .i64 l3, .slice sp sl sc] 29)) := (Below.refl _ _).alloc (Nat.le_refl _) _
    have M4 := Lib.hid (seven_new w4 (.string C1) (.string C2) (.slice rp rl rc) (.int .i64 l1) (.int .i64 l2) (.int .i64 l3) (.slice sp sl sc) 29)
    have E4 := hB4.trans (D4.mono hB4.size)
    have HH : Hid (∀ W, Below w4.heap.size w4 W → Holds W w3.heap.size n t4) := Lib.hid (fun W h => Holds.kept n t4 hh4 (fun j hj => h.block j (Holds.lt n t4 hh4 j hj).2))
    have IC := Lib.hid (fun W (h : Below w4.heap.size w4 W) => callsIn_wide.1 (count_in n t4 W (Holds.ty n t4 (HH.out W h)) (by rw [HSZ.out t4 ht4]; exact hnb)))
    rw [HSZ.out t4 ht4] at IC
    have EQ := Lib.hid (fun W (h : Below w4.heap.size w4 W) (b : Lt) (hb : Lies W n b) (ht : b.tree = TT) => eqPt_yes n t4 b W (Holds.lies n t4 (HH.out W h)) hb (ht4.trans ht.symm))
    rw [ho] at IC EQ ⊢
    have B4 := Lib.hid (B3.out.trans (E4.mono B3.out.size))
    have N4 := Lib.hid ((E4.block _ (Array.getElem?_eq_some_iff.1 N3.out).1).trans N3.out)
    have F4 := Lib.hid D4
    clear hB4 ho hh4 hd4 E4 D4
    go_wp2_with fail
    obtain ⟨v4, hv4⟩ : ∃ x, w4.alloc (.cells #[.string C1, .string C2, .slice rp rl rc, .int .i64 l1, .int .i64 l2, .int .i64 l3, .slice sp sl sc] 29) = x := ⟨_, rfl⟩
    rw [hv4] at M4 B4 N4 F4 ⊢
    clear hv4
    refine (IC.out _ F4.out).mono ?_
    rintro e w5 ⟨rfl, hB5⟩
    have F5 := Lib.hid (F4.out.trans (hB5.mono F4.out.size))
    have B5 := Lib.hid (B4.out.trans (hB5.mono B4.out.size))
    have gz : ((n : Int) != (n : Int)) = false := by simp
    have D6 : Below w5.heap.size w5 w5.drew := (Below.refl _ _).drew
    have F6 := Lib.hid (F5.out.trans (D6.mono F5.out.size))
    have B6 := Lib.hid (B5.out.trans (D6.mono B5.out.size))
    have N5 := Lib.hid ((hB5.block _ (Array.getElem?_eq_some_iff.1 N4.out).1).trans N4.out)
    have M5 := Lib.hid ((hB5.block _ (Array.getElem?_eq_some_iff.1 M4.out).1).trans M4.out)
    have N6 := Lib.hid ((D6.block _ (Array.getElem?_eq_some_iff.1 N5.out).1).trans N5.out)
    have M6 := Lib.hid ((D6.block _ (Array.getElem?_eq_some_iff.1 M5.out).1).trans M5.out)
    obtain ⟨_, _, _, _, _, _, _⟩ := seven_cells N5.out
    obtain ⟨_, _, _, _, _, _, _⟩ := seven_cells M5.out
    obtain ⟨_, _, _, _, _, _, _⟩ := seven_cells N6.out
    obtain ⟨_, _, _, _, _, _, _⟩ := seven_cells M6.out
    clear hB5 D6 IC
    go_wp2_with fail
    go_region_with (first | (go_at_call 26; refine (TF.out _ B6.out HS.out).mono ?_; rintro e w7 ⟨t7, rfl, ht7, hh7, hd7, hB7⟩; have B7 := Lib.hid (B6.out.trans (hB7.mono B6.out.size)); have F7 := Lib.hid (F6.out.trans (hB7.mono F6.out.size)); have L7 := Lib.hid (Holds.lies n t7 hh7); have EQ7 := Lib.hid (EQ.out w7 F7.out t7 L7.out ht7); obtain ⟨_, _, _, _, _, _, _⟩ := seven_cells ((hB7.block _ (Array.getElem?_eq_some_iff.1 M6.out).1).trans M6.out); clear hB7 hh7 hd7 ht7) | (go_at_call 28; refine EQ7.out.mono ?_; rintro e w8 ⟨rfl, hB8⟩; have B8 := Lib.hid (B7.out.trans (hB8.mono B7.out.size)); clear hB8))
    all_goals
      go_wp2_with fail
      go_ret
      exact ⟨rfl, B8.out⟩
end Go.Proofs.Ytjleadlecdcdeaa
