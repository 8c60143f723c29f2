/-
  Parts: the walks of the laws' eqKind, eqPart, eqPartS where they are equal.
-/
import Derived.Test.YtjleadlecdcdeaaPtC
import Derived.Test.YtjleadlecdcdeaaPrE
import Derived.Test.YtjleadlecdcdeaaKdE
import Derived.Test.YtjleadlecdcdeaaThree
import Derived.Deep.RegionHeld3
import Derived.Deep.QuietTactic
import Derived.BigQuiet
namespace Go.Proofs.Ytjleadlecdcdeaa
set_option linter.unusedVariables false
open Go.RowKit

theorem trees_at {la lb : List Lt} (h : la.map Lt.tree = lb.map Lt.tree) (k : Nat) (ha : k < la.length) (hb : k < lb.length) : la[k].tree = lb[k].tree := by
  have h1 := congrArg (fun l => l[k]?) h
  simp only [List.getElem?_map, List.getElem?_eq_getElem ha, List.getElem?_eq_getElem hb, Option.map_some] at h1
  exact Option.some.inj h1

set_option maxRecDepth 100000 in
set_option maxHeartbeats 1000000 in
theorem eqPts_yes (va vb : Value) (la lb : List Lt) (w : World) (ha : LtsAt w va la) (hb : LtsAt w vb lb) (hlen : la.length = lb.length) (hl : la.length ≤ 4294967296)
    (EQ : ∀ k, (h1 : k < la.length) → (h2 : k < lb.length) → ∀ W, Below w.heap.size w W → Calls Try.prog 28 #[ptV la[k], ptV lb[k]] W fun e w' => e = .returned (.bool true) ∧ Below W.heap.size W w') :
    Calls Try.prog 60 #[va, vb] w fun e w' => e = .returned (.bool true) ∧ Below w.heap.size w w' := by
  by_cases h0 : la.length = 0
  · obtain ⟨p, cap, rfl⟩ := ha.slice
    obtain ⟨q, cbp, rfl⟩ := hb.slice
    rw [← hlen, h0]
    clear ha hb h0 hlen EQ
    go_enter Try.func60, Try.ntmps60
    go_wp2
    go_loop [5] (fun i => i = .int .i64 0) (fun _ => 0)
    case atStart => rfl
    case round =>
      obtain rfl := hrel
      go_wp2
      go_ret
      exact ⟨rfl, Below.refl _ _⟩
  · rcases ha with ⟨rfl, _⟩ | ⟨ga, oa, ca, rfl, hga, hca⟩
    · exact absurd rfl h0
    rcases hb with ⟨rfl, _⟩ | ⟨gb, ob, cb, rfl, hgb, hcb⟩
    · exact absurd hlen h0
    have HCA := Lib.hid hca
    have HCB := Lib.hid hcb
    have EE := Lib.hid EQ
    rw [← hlen]
    obtain ⟨N, hN⟩ : ∃ N, la.length = N := ⟨_, rfl⟩
    have HL := Lib.hid hlen
    rw [hN] at hl h0 ⊢
    have HN := Lib.hid hN
    clear hca hcb EQ hlen hN
    go_enter Try.func60, Try.ntmps60
    go_wp2
    go_loopw [5] (fun i wr => ∃ k : Nat, k ≤ N ∧ i = .int .i64 k ∧ Below w.heap.size w wr) (fun i _ => N - (intOf i).toNat)
    case atStart => exact ⟨0, Nat.zero_le _, rfl, Below.refl _ _⟩
    case round =>
      obtain ⟨k, hk, rfl, hq⟩ := hrel
      by_cases hlt : k < N
      · have hk1 : k < la.length := by rw [HN.out]; exact hlt
        have hk2 : k < lb.length := by rw [← HL.out, HN.out]; exact hlt
        obtain ⟨x0, x1, x2, x3, x4, x5, x6⟩ := kid_cells HCA.out k hk1
        obtain ⟨y0, y1, y2, y3, y4, y5, y6⟩ := kid_cells HCB.out k hk2
        have EK := EE.out k hk1 hk2
        rw [← hq.cell (p := ⟨ga, _, none⟩) hga] at x0 x1 x2 x3 x4 x5 x6
        rw [← hq.cell (p := ⟨gb, _, none⟩) hgb] at y0 y1 y2 y3 y4 y5 y6
        unfold ptV at EK
        have i1 : (0 : Int) ≤ (k : Int) := by omega
        have i2 : (k : Int) < (N : Int) := by omega
        generalize la[k] = p at x0 x1 x2 x3 x4 x5 x6 EK
        generalize lb[k] = q at y0 y1 y2 y3 y4 y5 y6 EK
        clear hk1 hk2
        generalize mkB p.kind.type = a0 at x0 EK
        generalize mkB p.kind.sub = a1 at x1 EK
        generalize p.pv = a2 at x2 EK
        generalize Value.int .i64 p.head = a3 at x3 EK
        generalize Value.int .i64 p.body = a4 at x4 EK
        generalize Value.int .i64 p.fin = a5 at x5 EK
        generalize p.kv = a6 at x6 EK
        generalize mkB q.kind.type = b0 at y0 EK
        generalize mkB q.kind.sub = b1 at y1 EK
        generalize q.pv = b2 at y2 EK
        generalize Value.int .i64 q.head = b3 at y3 EK
        generalize Value.int .i64 q.body = b4 at y4 EK
        generalize Value.int .i64 q.fin = b5 at y5 EK
        generalize q.kv = b6 at y6 EK
        have HQ := Lib.hid hq
        have EKH := Lib.hid EK
        clear hq EK
        have hgaw : ga < wr.heap.size := by have := HQ.out.size; omega
        have hgbw : gb < wr.heap.size := by have := HQ.out.size; omega
        go_wp2_with fail
        go_region_held3 (fun w' => w'.cell? ⟨ga, oa + k * 7, none⟩ = some (.string a0) ∧ w'.cell? ⟨ga, oa + k * 7 + 1, none⟩ = some (.string a1) ∧ w'.cell? ⟨ga, oa + k * 7 + 2, none⟩ = some (a2) ∧ w'.cell? ⟨ga, oa + k * 7 + 3, none⟩ = some (a3) ∧ w'.cell? ⟨ga, oa + k * 7 + 4, none⟩ = some (a4) ∧ w'.cell? ⟨ga, oa + k * 7 + 5, none⟩ = some (a5) ∧ w'.cell? ⟨ga, oa + k * 7 + 6, none⟩ = some (a6) ∧ w'.cell? ⟨gb, ob + k * 7, none⟩ = some (.string b0) ∧ w'.cell? ⟨gb, ob + k * 7 + 1, none⟩ = some (.string b1) ∧ w'.cell? ⟨gb, ob + k * 7 + 2, none⟩ = some (b2) ∧ w'.cell? ⟨gb, ob + k * 7 + 3, none⟩ = some (b3) ∧ w'.cell? ⟨gb, ob + k * 7 + 4, none⟩ = some (b4) ∧ w'.cell? ⟨gb, ob + k * 7 + 5, none⟩ = some (b5) ∧ w'.cell? ⟨gb, ob + k * 7 + 6, none⟩ = some (b6)) (first | go_keep | exact ⟨(hB1.cell (p := ⟨ga, oa + k * 7, none⟩) hgaw).trans x0, (hB1.cell (p := ⟨ga, oa + k * 7 + 1, none⟩) hgaw).trans x1, (hB1.cell (p := ⟨ga, oa + k * 7 + 2, none⟩) hgaw).trans x2, (hB1.cell (p := ⟨ga, oa + k * 7 + 3, none⟩) hgaw).trans x3, (hB1.cell (p := ⟨ga, oa + k * 7 + 4, none⟩) hgaw).trans x4, (hB1.cell (p := ⟨ga, oa + k * 7 + 5, none⟩) hgaw).trans x5, (hB1.cell (p := ⟨ga, oa + k * 7 + 6, none⟩) hgaw).trans x6, (hB1.cell (p := ⟨gb, ob + k * 7, none⟩) hgbw).trans y0, (hB1.cell (p := ⟨gb, ob + k * 7 + 1, none⟩) hgbw).trans y1, (hB1.cell (p := ⟨gb, ob + k * 7 + 2, none⟩) hgbw).trans y2, (hB1.cell (p := ⟨gb, ob + k * 7 + 3, none⟩) hgbw).trans y3, (hB1.cell (p := ⟨gb, ob + k * 7 + 4, none⟩) hgbw).trans y4, (hB1.cell (p := ⟨gb, ob + k * 7 + 5, none⟩) hgbw).trans y5, (hB1.cell (p := ⟨gb, ob + k * 7 + 6, none⟩) hgbw).trans y6⟩) (first | (go_at_call 28; refine (EKH.out _ HQ.out.drew).mono ?_; rintro e w1 ⟨rfl, hB1⟩))
        have HQ1 := Lib.hid ((HQ.out.drew).trans (hB1.mono HQ.out.size))
        clear hB1
        go_wp2_with fail
        go_roundw
        case rel => exact ⟨k + 1, by omega, by go_num, HQ1.out⟩
        case measure => simp [intOf]; omega
      · obtain rfl : k = N := by omega
        go_wp2_with fail
        go_ret
        exact ⟨rfl, hq⟩

set_option maxRecDepth 100000 in
set_option maxHeartbeats 1000000 in
theorem eqPt_yes : ∀ (n : Nat) (a b : Lt) (w : World), Lies w n a → Lies w n b → a.tree = b.tree →
    Calls Try.prog 28 #[ptV a, ptV b] w fun e w' => e = .returned (.bool true) ∧ Below w.heap.size w w'
  | 0, a, b, w, ha, _, _ => ha.elim
  | n + 1, a, b, w, ha, hb, ht => by
    rw [a.tree_eq, b.tree_eq] at ht
    injection ht with t1 t2 t3 t4 t5
    obtain ⟨⟨hp, hkl⟩, ap, ak, ax⟩ := ha
    obtain ⟨_, bp, bk, bx⟩ := hb
    unfold ptV
    rw [← t1] at bp ⊢
    rw [← t2, ← t3, ← t4]
    have hlen : a.kids.length = b.kids.length := by have := congrArg List.length t5; simpa using this
    obtain ⟨pa, ca, hpa⟩ := ap.slice
    obtain ⟨pb, cb, hpb⟩ := bp.slice
    obtain ⟨qa, da, hqa⟩ := ak.slice
    obtain ⟨qb, db, hqb⟩ := bk.slice
    rw [← hlen] at hqb
    have B1 : Below w.heap.size w ((w.alloc (.cells #[.string (mkB a.kind.type), .string (mkB a.kind.sub), a.pv, .int .i64 a.head, .int .i64 a.body, .int .i64 a.fin, a.kv] 29)).alloc (.cells #[.string (mkB a.kind.type), .string (mkB a.kind.sub), b.pv, .int .i64 a.head, .int .i64 a.body, .int .i64 a.fin, b.kv] 29)) := ((Below.refl _ _).alloc (Nat.le_refl _) _).alloc (by simp) _
    have BH := Lib.hid B1
    have K := Lib.hid (eqKd_yes (mkB a.kind.type) (mkB a.kind.sub) a.pv b.pv a.kind.params _ (ap.later B1 (Nat.le_refl _)) (bp.later B1 (Nat.le_refl _)) (by omega))
    have S : Hid (∀ W, Below w.heap.size w W → Calls Try.prog 60 #[a.kv, b.kv] W fun e w' => e = .returned (.bool true) ∧ Below W.heap.size W w') := Lib.hid (fun W hW => eqPts_yes a.kv b.kv a.kids b.kids W (ak.later hW (Nat.le_refl _)) (bk.later hW (Nat.le_refl _)) hlen (by omega) (fun k h1 h2 W2 hW2 =>
      eqPt_yes n _ _ W2 (((ax _ (List.getElem_mem h1)).later hW (Nat.le_refl _)).later hW2 (Nat.le_refl _)) (((bx _ (List.getElem_mem h2)).later hW (Nat.le_refl _)).later hW2 (Nat.le_refl _)) (trees_at t5 k h1 h2)))
    have X1 := Lib.hid (seven_new (w.alloc (.cells #[.string (mkB a.kind.type), .string (mkB a.kind.sub), a.pv, .int .i64 a.head, .int .i64 a.body, .int .i64 a.fin, a.kv] 29)) (.string (mkB a.kind.type)) (.string (mkB a.kind.sub)) b.pv (.int .i64 a.head) (.int .i64 a.body) (.int .i64 a.fin) b.kv 29)
    have X0 := Lib.hid ((Below.heap_alloc (w.alloc (.cells #[.string (mkB a.kind.type), .string (mkB a.kind.sub), a.pv, .int .i64 a.head, .int .i64 a.body, .int .i64 a.fin, a.kv] 29)) (.cells #[.string (mkB a.kind.type), .string (mkB a.kind.sub), b.pv, .int .i64 a.head, .int .i64 a.body, .int .i64 a.fin, b.kv] 29) w.heap.size (by simp)).trans (seven_new w (.string (mkB a.kind.type)) (.string (mkB a.kind.sub)) a.pv (.int .i64 a.head) (.int .i64 a.body) (.int .i64 a.fin) a.kv 29))
    clear B1 ap bp ak bk ax bx t1 t2 t3 t4 t5 hp
    rw [hpa, hpb, hqa, hqb] at K X0 X1 BH ⊢
    rw [hqa, hqb] at S
    clear hlen hpa hpb hqa hqb
    generalize mkB a.kind.type = U1 at *
    generalize mkB a.kind.sub = U2 at *
    generalize a.head = i1 at *
    generalize a.body = i2 at *
    generalize a.fin = i3 at *
    generalize a.kids.length = nk at *
    generalize a.kind.params.length = np at *
    go_enter Try.func28, Try.ntmps28
    go_wp2_with fail
    refine K.out.mono ?_
    rintro e w1 ⟨rfl, hB1⟩
    obtain ⟨_, _, _, c3, c4, c5, c6⟩ := seven_cells ((hB1.block _ (Array.getElem?_eq_some_iff.1 X0.out).1).trans X0.out)
    obtain ⟨_, _, _, d3, d4, d5, d6⟩ := seven_cells ((hB1.block _ (Array.getElem?_eq_some_iff.1 X1.out).1).trans X1.out)
    have BH1 := Lib.hid (BH.out.trans (hB1.mono BH.out.size))
    rw [show (w.alloc (.cells #[.string U1, .string U2, .slice pa np ca, .int .i64 i1, .int .i64 i2, .int .i64 i3, .slice qa nk da] 29)).heap.size = w.heap.size + 1 by simp] at d3 d4 d5 d6
    clear hB1 K X0 X1
    go_wp2_with fail
    refine (S.out _ BH1.out).mono ?_
    rintro e w2 ⟨rfl, hB2⟩
    have BH2 := Lib.hid (BH1.out.trans (hB2.mono BH1.out.size))
    clear hB2
    go_wp2_with fail
    go_ret
    exact ⟨rfl, BH2.out⟩
end Go.Proofs.Ytjleadlecdcdeaa
