/-
  Parts: the walk of spec's Count.
-/
import Derived.Test.YtjleadlecdcdeaaPtC
namespace Go.Proofs.Ytjleadlecdcdeaa
set_option linter.unusedVariables false
open Go.RowKit

set_option maxRecDepth 100000 in
set_option maxHeartbeats 2000000 in
theorem specCount_any : ∀ (n : Nat) (t : Lt) (w : World), Lies w n t → t.size ≤ 10000000 →
    Calls Try.prog 33 #[ptV t] w fun e w' => e = .returned (.int .i64 (t.size : Int)) ∧ Below w.heap.size w w'
  | 0, t, w, h, _ => h.elim
  | n + 1, t, w, h, hsz => by
    have hse := t.size_eq
    rw [hse] at hsz ⊢
    obtain ⟨_, _, hkv, hkids⟩ := h
    have IH : Hid (∀ x ∈ t.kids, ∀ W : World, Lies W n x → Calls Try.prog 33 #[ptV x] W fun e w' => e = .returned (.int .i64 (x.size : Int)) ∧ Below W.heap.size W w') := Lib.hid (fun x hx W hW => specCount_any n x W hW (by have := sizesL_mem hx; omega))
    have HL := Lib.hid hkids
    obtain ⟨kp, kc, hkve⟩ := hkv.slice
    unfold ptV
    rw [hkve] at hkv ⊢
    have HKV := Lib.hid hkv
    generalize t.kids = kids at *
    generalize mkB t.kind.type = T1
    generalize mkB t.kind.sub = T2
    generalize t.pv = pv
    generalize t.head = i1
    generalize t.body = i2
    generalize t.fin = i3
    have hkl : kids.length ≤ 10000000 := by have := sizesL_len kids; omega
    obtain ⟨R, hR⟩ : ∃ R, 1 + sizesL kids = R := ⟨_, rfl⟩
    rw [hR]
    have HR := Lib.hid hR
    clear hR
    have HA := Lib.hid (seven_new w (.string T1) (.string T2) pv (.int .i64 i1) (.int .i64 i2) (.int .i64 i3) (.slice kp kids.length kc) 29)
    have HB : Hid (Below w.heap.size w (w.alloc (.cells #[.string T1, .string T2, pv, .int .i64 i1, .int .i64 i2, .int .i64 i3, .slice kp kids.length kc] 29))) := Lib.hid ((Below.refl _ _).alloc (Nat.le_refl _) _)
    clear hkv hkids hse hkve
    go_enter Try.func33, Try.ntmps33
    go_wp2_with fail
    go_loopw [3, 4] (fun m i wr => ∃ k c : Nat, k ≤ kids.length ∧ i = .int .i64 (k : Int) ∧ m = .int .i64 (c : Int) ∧ Hid (c = 1 + sizesL (kids.take k)) ∧ Hid (wr.heap[w.heap.size]? = some (.cells #[.string T1, .string T2, pv, .int .i64 i1, .int .i64 i2, .int .i64 i3, .slice kp kids.length kc] 29 (0, 0))) ∧ Hid (Below w.heap.size w wr)) (fun _ i _ => kids.length - (intOf i).toNat)
    case atStart => exact ⟨0, 1, Nat.zero_le _, rfl, rfl, Lib.hid (by simp [sizesL]), HA, HB⟩
    case round =>
      obtain ⟨k, c, hk, rfl, rfl, HC, HX, HQ⟩ := hrel
      obtain ⟨c0, c1, c2, c3, c4, c5, c6⟩ := seven_cells HX.out
      clear HA HB
      by_cases hlt : k < kids.length
      · rcases HKV.out with ⟨h, _⟩ | ⟨g, off, cap, hv, hg, hcs⟩
        · rw [h] at hlt
          exact absurd hlt (by simp)
        injection hv with hv1 hv2 hv3
        subst hv1 hv3
        have j1 : (0 : Int) ≤ (k : Int) := by omega
        have j2 : (k : Int) < (kids.length : Int) := by omega
        obtain ⟨d0, d1, d2, d3, d4, d5, d6⟩ := kid_cells hcs k hlt
        rw [← HQ.out.cell (p := ⟨g, _, none⟩) hg] at d0 d1 d2 d3 d4 d5 d6
        have hmem : kids[k] ∈ kids := List.getElem_mem hlt
        have CX := IH.out kids[k] hmem wr ((HL.out _ hmem).later HQ.out (Nat.le_refl _))
        have hsn := sizesL_snoc kids k hlt
        have hle := sizesL_le kids (k + 1)
        unfold ptV at CX
        generalize kids[k] = x at d0 d1 d2 d3 d4 d5 d6 CX hsn
        have hcb : c + x.size ≤ 10000000 := by have := HC.out; omega
        have HC2 : Hid (c + x.size = 1 + sizesL (kids.take (k + 1))) := Lib.hid (by have := HC.out; omega)
        generalize mkB x.kind.type = U1 at d0 CX
        generalize mkB x.kind.sub = U2 at d1 CX
        generalize x.pv = pv2 at d2 CX
        generalize x.head = k1 at d3 CX
        generalize x.body = k2 at d4 CX
        generalize x.fin = k3 at d5 CX
        generalize x.kv = kv2 at d6 CX
        generalize x.size = sz at CX hcb HC2
        have CXH := Lib.hid CX
        clear CX hcs hmem hsn hle
        go_wp2_with fail
        refine CXH.out.mono ?_
        rintro e w2 ⟨rfl, hB2⟩
        have HX2 := Lib.hid ((hB2.block _ (Array.getElem?_eq_some_iff.1 HX.out).1).trans HX.out)
        have HQ2 := Lib.hid (HQ.out.trans (hB2.mono HQ.out.size))
        clear hB2 CXH
        go_wp2_with fail
        go_roundw
        case rel => exact ⟨k + 1, c + sz, by omega, by go_num, by go_num, HC2, HX2, HQ2⟩
        case measure => simp [intOf]; omega
      · obtain rfl : k = kids.length := by omega
        have HC2 : c = R := by rw [HC.out, List.take_length]; exact HR.out
        subst HC2
        go_wp2_with fail
        go_ret
        exact ⟨rfl, HQ.out⟩
end Go.Proofs.Ytjleadlecdcdeaa
