/-
  Parts that came in: the walks of the laws' szKind, szPart, szPartS.
-/
import Derived.Test.YtjleadlecdcdeaaPtO
import Derived.Test.YtjleadlecdcdeaaPrT
import Derived.Test.YtjleadlecdcdeaaThree
namespace Go.Proofs.Ytjleadlecdcdeaa
set_option linter.unusedVariables false
open Go.RowKit

/-- No slice of it is too long. -/
inductive Small : Lt → Prop
  | mk (t : Lt) (hp : t.kind.params.length ≤ 1048576) (hk : t.kids.length ≤ 1048576) (hx : ∀ x ∈ t.kids, Small x) : Small t
theorem szPrL_le : ∀ (l : List Pr) (left : Int), 0 ≤ left → szPrL l left ≤ left ∧ -1 ≤ szPrL l left
  | [], left, h => by rw [szPrL]; omega
  | f :: r, left, h => by
    rw [szPrL]
    split
    · omega
    · have h1 := szPr_le f left (by omega)
      have h2 := szPrL_le r (szPr f left) (by omega)
      omega
theorem szPrS_le (l : List Pr) (left : Int) (h : 0 ≤ left) : szPrS l left ≤ left ∧ -1 ≤ szPrS l left := by
  unfold szPrS
  split
  · omega
  · have := szPrL_le l (left - l.length) (by omega)
    omega

set_option maxRecDepth 100000 in
set_option maxHeartbeats 2000000 in
theorem szKd_any (k : Kd) (v : Value) (left : Int) (w : World) (hv : PrsAt w v k.params) (hl0 : 0 ≤ left) (hl1 : left ≤ 1048576) (h1 : k.type.length ≤ 9223372036854775807) (h2 : k.sub.length ≤ 9223372036854775807)
    (hl : k.params.length ≤ 9223372036854775807) (hx : ∀ f ∈ k.params, f.name.length ≤ 9223372036854775807 ∧ f.value.length ≤ 9223372036854775807) :
    Calls Try.prog 17 #[.agg #[.string (mkB k.type), .string (mkB k.sub), v], .int .i64 left] w fun e w' => (∃ r : Int, e = .returned (.int .i64 r) ∧ -1 ≤ r ∧ r ≤ left ∧ (0 ≤ r → k.params.length ≤ 1048576)) ∧ Below w.heap.size w w' := by
  have n0 := mkB_size k.type
  have n1 := mkB_size k.sub
  rw [← n0] at h1
  rw [← n1] at h2
  clear n0 n1
  generalize mkB k.type = s0 at h1 ⊢
  generalize mkB k.sub = s1 at h2 ⊢
  generalize k.params = l at *
  obtain ⟨p, cap, rfl⟩ := hv.slice
  have BH : Hid (Below w.heap.size w (w.alloc (.cells #[.string s0, .string s1, .slice p l.length cap] 43))) := Lib.hid ((Below.refl _ _).alloc (Nat.le_refl _) _)
  have HV := Lib.hid (hv.later BH.out (Nat.le_refl _))
  have HX := Lib.hid hx
  clear hv hx
  have e0 : IntKind.i64.wrap (left - (s0.size : Int)) = left - (s0.size : Int) := by rw [IntKind.wrap_i64]; omega
  by_cases c1 : left - (s0.size : Int) < 0
  · clear HV HX
    go_enter Try.func17, Try.ntmps17
    go_wp2_with fail
    go_ret
    exact ⟨⟨-1, rfl, by omega, by omega, fun h => absurd h (by decide)⟩, BH.out⟩
  · have c1' : 0 ≤ left - (s0.size : Int) := by omega
    have e1 : IntKind.i64.wrap (left - (s0.size : Int) - (s1.size : Int)) = left - (s0.size : Int) - (s1.size : Int) := by rw [IntKind.wrap_i64]; omega
    by_cases c2 : left - (s0.size : Int) - (s1.size : Int) < 0
    · clear HV HX
      go_enter Try.func17, Try.ntmps17
      go_wp2_with fail
      go_ret
      exact ⟨⟨-1, rfl, by omega, by omega, fun h => absurd h (by decide)⟩, BH.out⟩
    · have c2' : 0 ≤ left - (s0.size : Int) - (s1.size : Int) := by omega
      have SZ := Lib.hid (szParamS_at _ l (left - (s0.size : Int) - (s1.size : Int)) _ c2' (by omega) HV.out hl HX.out)
      have hle := szPrS_le l (left - (s0.size : Int) - (s1.size : Int)) c2'
      have hok := fun h => (szPrS_ok (l := l) (left := left - (s0.size : Int) - (s1.size : Int)) h).1
      generalize szPrS l (left - (s0.size : Int) - (s1.size : Int)) = r at SZ hle hok
      have HLE := Lib.hid hle
      have HOK := Lib.hid hok
      clear hle hok HV HX
      by_cases c3 : r < 0
      · go_enter Try.func17, Try.ntmps17
        go_wp2_with fail
        refine SZ.out.mono ?_
        rintro e w1 ⟨rfl, hB1⟩
        go_wp2_with fail
        go_ret
        exact ⟨⟨-1, rfl, by omega, by omega, fun h => absurd h (by decide)⟩, BH.out.trans (hB1.mono BH.out.size)⟩
      · have c3' : 0 ≤ r := by omega
        go_enter Try.func17, Try.ntmps17
        go_wp2_with fail
        refine SZ.out.mono ?_
        rintro e w1 ⟨rfl, hB1⟩
        go_wp2_with fail
        go_ret
        have h3 := HLE.out
        have h4 := HOK.out c3'
        exact ⟨⟨r, rfl, by omega, by omega, fun _ => by omega⟩, BH.out.trans (hB1.mono BH.out.size)⟩

/-- What szPart says of a part. -/
def SzW (t : Lt) (left : Int) (w : World) (e : Ending) (w' : World) : Prop :=
  (∃ r : Int, e = .returned (.int .i64 r) ∧ -1 ≤ r ∧ r ≤ left ∧ (0 ≤ r → Small t ∧ (t.size : Int) - 1 + r ≤ left)) ∧ Below w.heap.size w w'

set_option maxRecDepth 100000 in
set_option maxHeartbeats 2000000 in
theorem szPts_any (v : Value) (l : List Lt) (left : Int) (w : World) (hv : LtsAt w v l) (hl : l.length ≤ 9223372036854775807) (hl0 : 0 ≤ left) (hl1 : left ≤ 1048576)
    (SP : ∀ k, (h : k < l.length) → ∀ (m : Int) (W : World), Below w.heap.size w W → 0 ≤ m → m ≤ 1048576 → Calls Try.prog 25 #[ptV l[k], .int .i64 m] W (SzW l[k] m W)) :
    Calls Try.prog 58 #[v, .int .i64 left] w fun e w' => (∃ r : Int, e = .returned (.int .i64 r) ∧ -1 ≤ r ∧ r ≤ left ∧ (0 ≤ r → l.length ≤ 1048576 ∧ (∀ x ∈ l, Small x) ∧ (sizesL l : Int) + r ≤ left)) ∧ Below w.heap.size w w' := by
  obtain ⟨p, cap, rfl⟩ := hv.slice
  have HV := Lib.hid hv
  have HS := Lib.hid SP
  clear hv SP
  have e1 : IntKind.i64.wrap (left - (l.length : Int)) = left - (l.length : Int) := by rw [IntKind.wrap_i64]; omega
  by_cases ha : left - (l.length : Int) < 0
  · go_enter Try.func58, Try.ntmps58
    go_wp2_with fail
    go_ret
    exact ⟨⟨-1, rfl, by omega, by omega, fun h => absurd h (by decide)⟩, Below.refl _ _⟩
  · have ha' : 0 ≤ left - (l.length : Int) := by omega
    have hll : l.length ≤ 1048576 := by omega
    have hll2 : (l.length : Int) ≤ left := by omega
    go_enter Try.func58, Try.ntmps58
    go_wp2_with fail
    go_loopw [1, 5] (fun m i wr => ∃ (k : Nat) (q : Int), k ≤ l.length ∧ i = .int .i64 k ∧ m = .int .i64 q ∧ 0 ≤ q ∧ q ≤ 1048576 ∧ Hid (q + (l.length : Int) + (sizesL (l.take k) : Int) ≤ left + (k : Int)) ∧ Hid (∀ j, (h : j < l.length) → j < k → Small l[j]) ∧ Hid (Below w.heap.size w wr)) (fun _ i _ => l.length - (intOf i).toNat)
    case atStart => exact ⟨0, left - (l.length : Int), Nat.zero_le _, rfl, rfl, by omega, by omega, Lib.hid (by simp [sizesL]), Lib.hid (fun j _ h => absurd h (by omega)), Lib.hid (Below.refl _ _)⟩
    case round =>
      obtain ⟨k, q, hk, rfl, rfl, hq0, hq1, HP, HM, HB⟩ := hrel
      by_cases hlt : k < l.length
      · have i1 : (0 : Int) ≤ (k : Int) := by omega
        have i2 : (k : Int) < (l.length : Int) := by omega
        rcases HV.out with ⟨h, _⟩ | ⟨g, off, cap2, hv2, hg, hcs⟩
        · rw [h] at hlt
          exact absurd hlt (by simp)
        injection hv2 with v1 v2 v3
        subst v1 v3
        obtain ⟨d0, d1, d2, d3, d4, d5, d6⟩ := kid_cells hcs k hlt
        rw [← HB.out.cell (p := ⟨g, _, none⟩) hg] at d0 d1 d2 d3 d4 d5 d6
        have CX := HS.out k hlt q wr HB.out hq0 hq1
        have hsn := sizesL_snoc l k hlt
        have hm2 : Small l[k] → ∀ j, (h : j < l.length) → j < k + 1 → Small l[j] := fun hs j h hj => by
          rcases Nat.lt_or_ge j k with h2 | h2
          · exact HM.out j h h2
          · obtain rfl : j = k := by omega
            exact hs
        have HM2 := Lib.hid hm2
        have HSN := Lib.hid hsn
        unfold ptV at CX
        generalize l[k] = x at d0 d1 d2 d3 d4 d5 d6 CX HM2 HSN
        generalize mkB x.kind.type = a0 at d0 CX
        generalize mkB x.kind.sub = a1 at d1 CX
        generalize x.pv = a2 at d2 CX
        generalize Value.int .i64 x.head = a3 at d3 CX
        generalize Value.int .i64 x.body = a4 at d4 CX
        generalize Value.int .i64 x.fin = a5 at d5 CX
        generalize x.kv = a6 at d6 CX
        have CXH := Lib.hid CX
        clear CX hcs hm2 hsn
        go_wp2_with fail
        refine CXH.out.mono ?_
        rintro e w1 ⟨⟨r, rfl, hr1, hr2, hr3⟩, hB1⟩
        have B1 := Lib.hid (HB.out.trans (hB1.mono HB.out.size))
        clear hB1 CXH
        by_cases hr : r < 0
        · clear hr3
          go_wp2_with fail
          go_ret
          exact ⟨⟨-1, rfl, by omega, by omega, fun h => absurd h (by decide)⟩, B1.out⟩
        · have hr' : 0 ≤ r := by omega
          obtain ⟨hsm, hsz⟩ := hr3 hr'
          have HP2 : Hid (r + (l.length : Int) + (sizesL (l.take (k + 1)) : Int) ≤ left + ((k + 1 : Nat) : Int)) := Lib.hid (by have := HP.out; have := HSN.out; omega)
          have HM3 := Lib.hid (HM2.out hsm)
          clear hsm hsz HP HM
          go_wp2_with fail
          go_roundw
          case rel => exact ⟨k + 1, r, by omega, by go_num, rfl, by omega, by omega, HP2, HM3, B1⟩
          case measure => simp [intOf]; omega
      · obtain rfl : k = l.length := by omega
        have hp := HP.out
        rw [List.take_length] at hp
        have HP3 := Lib.hid hp
        clear hp
        go_wp2_with fail
        go_ret
        have hp := HP3.out
        refine ⟨⟨q, rfl, by omega, by omega, fun _ => ⟨hll, fun x hx => ?_, by omega⟩⟩, HB.out⟩
        obtain ⟨j, hj, rfl⟩ := List.getElem_of_mem hx
        exact HM.out j hj hj

theorem Came.later {w w' : World} {B : Nat} (hb : Below B w w') (hB : w.heap.size ≤ B) : ∀ {t : Lt}, Came w t → Came w' t := by
  intro t h
  induction h with
  | mk t h1 h2 hp hk hl hx ih =>
    obtain ⟨a, len, cap, e, q⟩ := hp
    exact .mk t h1 h2 ⟨a, len, cap, e, q.1.later hb hB, q.2⟩ (hk.later hb hB) hl ih

set_option maxRecDepth 100000 in
set_option maxHeartbeats 2000000 in
theorem szPt_any : ∀ (n : Nat) (t : Lt) (left : Int) (w : World), t.size ≤ n → Came w t → 0 ≤ left → left ≤ 1048576 →
    Calls Try.prog 25 #[ptV t, .int .i64 left] w (SzW t left w)
  | 0, t, left, w, hn, _, _, _ => by have := t.size_eq; omega
  | n + 1, t, left, w, hn, ⟨_, h1, h2, ⟨a, len, cap, hpv, hps, hpl, hpm, hpx⟩, hk, hl, hx⟩, hl0, hl1 => by
    have hse := t.size_eq
    have BH : Hid (Below w.heap.size w (w.alloc (.cells #[.string (mkB t.kind.type), .string (mkB t.kind.sub), t.pv, .int .i64 t.head, .int .i64 t.body, .int .i64 t.fin, t.kv] 55))) := Lib.hid ((Below.refl _ _).alloc (Nat.le_refl _) _)
    have X0 := Lib.hid (seven_new w (.string (mkB t.kind.type)) (.string (mkB t.kind.sub)) t.pv (.int .i64 t.head) (.int .i64 t.body) (.int .i64 t.fin) t.kv 55)
    unfold maxLen at h1 h2 hl hpm
    have K := Lib.hid (szKd_any t.kind t.pv left _ (by rw [hpv]; exact hps.later BH.out (Nat.le_refl _)) hl0 hl1 h1 h2 (by rw [← hpl]; exact hpm) (fun f hf => hpx f hf))
    have S : Hid (∀ (m : Int) (W : World), Below w.heap.size w W → 0 ≤ m → m ≤ 1048576 → Calls Try.prog 58 #[t.kv, .int .i64 m] W fun e w' => (∃ r : Int, e = .returned (.int .i64 r) ∧ -1 ≤ r ∧ r ≤ m ∧ (0 ≤ r → t.kids.length ≤ 1048576 ∧ (∀ x ∈ t.kids, Small x) ∧ (sizesL t.kids : Int) + r ≤ m)) ∧ Below W.heap.size W w') :=
      Lib.hid (fun m W hW hm0 hm1 => szPts_any t.kv t.kids m W (hk.later hW (Nat.le_refl _)) hl hm0 hm1 (fun j hj m2 W2 hW2 h20 h21 =>
        szPt_any n _ m2 W2 (by have := sizesL_mem (List.getElem_mem hj); omega) (((hx _ (List.getElem_mem hj)).later hW (Nat.le_refl _)).later hW2 (Nat.le_refl _)) h20 h21))
    have FIN : Hid (∀ r : Int, t.kind.params.length ≤ 1048576 → t.kids.length ≤ 1048576 ∧ (∀ x ∈ t.kids, Small x) ∧ (sizesL t.kids : Int) + r ≤ left → Small t ∧ (t.size : Int) - 1 + r ≤ left) := Lib.hid (fun r q1 ⟨q2, q3, q4⟩ => ⟨.mk t q1 q2 q3, by omega⟩)
    obtain ⟨kp, kc, hkv⟩ := hk.slice
    clear h1 h2 hps hpl hpm hpx hk hl hx hse hn
    unfold SzW ptV
    rw [hpv, hkv] at BH X0 ⊢
    rw [hpv, hkv] at K
    rw [hkv] at S
    clear hpv hkv
    generalize mkB t.kind.type = U1 at *
    generalize mkB t.kind.sub = U2 at *
    generalize t.head = i1 at *
    generalize t.body = i2 at *
    generalize t.fin = i3 at *
    go_enter Try.func25, Try.ntmps25
    go_wp2_with fail
    refine K.out.mono ?_
    rintro e w1 ⟨⟨r, rfl, hr1, hr2, hr3⟩, hB1⟩
    obtain ⟨c0, c1, c2, c3, c4, c5, c6⟩ := seven_cells ((hB1.block _ (Array.getElem?_eq_some_iff.1 X0.out).1).trans X0.out)
    have BH1 := Lib.hid (BH.out.trans (hB1.mono BH.out.size))
    clear hB1 K X0 BH c0 c1 c2 c3 c4 c5
    by_cases hr : r < 0
    · clear hr3 S FIN
      go_wp2_with fail
      go_ret
      exact ⟨⟨-1, rfl, by omega, by omega, fun h => absurd h (by decide)⟩, BH1.out⟩
    · have hr' : 0 ≤ r := by omega
      have HK := Lib.hid (hr3 hr')
      clear hr3
      go_wp2_with fail
      refine (S.out r w1 BH1.out hr' (by omega)).mono ?_
      rintro e w2 ⟨⟨q, rfl, hq1, hq2, hq3⟩, hB2⟩
      have BH2 := Lib.hid (BH1.out.trans (hB2.mono BH1.out.size))
      clear hB2 c6 S
      by_cases hq : q < 0
      · clear hq3 FIN
        go_wp2_with fail
        go_ret
        exact ⟨⟨-1, rfl, by omega, by omega, fun h => absurd h (by decide)⟩, BH2.out⟩
      · have hq' : 0 ≤ q := by omega
        have HQ3 := Lib.hid (hq3 hq')
        clear hq3
        go_wp2_with fail
        go_ret
        have h := HQ3.out
        exact ⟨⟨q, rfl, by omega, by omega, fun _ => FIN.out q HK.out ⟨h.1, h.2.1, by omega⟩⟩, BH2.out⟩
end Go.Proofs.Ytjleadlecdcdeaa
