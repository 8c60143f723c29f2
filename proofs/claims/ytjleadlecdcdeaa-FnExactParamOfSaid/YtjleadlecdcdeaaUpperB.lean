/-
  The walks of impl.Upper, of Same, and of the exact laws on both.
-/
import Derived.Test.YtjleadlecdcdeaaUpperA
namespace Go.Proofs.Ytjleadlecdcdeaa
set_option linter.unusedVariables false
open Go.RowKit

theorem tab_at (b : UInt8) : (tabUp2 123)[b.toNat]? = some (bv (upB b)) := by
  have := b.toNat_lt
  rw [tabUp2_get, if_pos (by omega)]
  unfold bv
  rw [upB_nat]
  by_cases h : 97 ≤ b.toNat ∧ b.toNat ≤ 122
  · rw [if_pos h, if_pos (by omega)]
  · rw [if_neg h, if_neg (by omega)]

theorem cell_far (w : World) (p a : Addr) (v : Value) (h : p.block ≠ a.block) : (w.setCell p v).cell? a = w.cell? a := by
  simp only [World.cell?, Below.heap_setCell w p v a.block (Ne.symm h)]

/-- A table in a block of its own. -/
def TabAt (w : World) (g : Nat) (C : Array Value) : Prop := ∀ j, w.cell? ⟨g, j, none⟩ = C[j]?

set_option maxRecDepth 100000 in
set_option maxHeartbeats 400000 in
theorem implUpper_any (s : ByteArray) (w : World) (hs : s.size ≤ maxLen) :
    Calls Try.prog 85 #[.string s] w fun e w' => e = .returned (.string ⟨(upS s.data.toList).toArray⟩) ∧ Below w.heap.size w w' := by
  unfold maxLen at hs
  obtain ⟨hz, hs256⟩ := zero_of_info info256
  obtain ⟨C0, HC0⟩ : ∃ C, Hid (C = z256) := ⟨_, Lib.hid rfl⟩
  rw [← HC0.out] at hz
  obtain ⟨T, HT⟩ : ∃ C, Hid (C = tabUp2 123) := ⟨_, Lib.hid rfl⟩
  have Htab := upperTable_any w
  rw [← HT.out] at Htab
  have HTAB := Lib.hid Htab
  clear Htab
  have hTs : T.size = 256 := by rw [HT.out, tabUp2_size]
  have hC : C0.size = 256 := by rw [HC0.out]; rfl
  have HALL : Hid (T.all (·.oneCell') = true) := Lib.hid (by rw [HT.out]; exact tabUp2_one _)
  have HS : Hid ((Try.prog.info? 141).map (·.size) = some T.size) := Lib.hid (by rw [hs256, hTs])
  have HCS : Hid (C0.size = T.size) := Lib.hid (by rw [hC, hTs])
  clear hTs hC hs256
  go_enter Try.func85, Try.ntmps85
  go_wp2_with (first | (go_at_call 98; refine HTAB.out.mono ?_; rintro e w1 ⟨rfl, hB1⟩; obtain ⟨W, cap, hconv, hbuf, hbel, hsz⟩ := conv_bytes (P := Try.prog) (w1.alloc (.cells T 141)) 9 22 5 s Try.underlying9 Try.underlying22 Try.underlying5; have HSZ := Lib.hid hsz; clear hsz) | (refine wpList_store_row rfl 141 _ _ rfl w1.heap.size T rfl rfl 141 C0 (heap_alloc_new _ _) HS.out HCS.out HALL.out ?_; rw [World.setRow_alloc_new]))
  have hsz1 : (w1.alloc (.cells T 141)).heap.size = w1.heap.size + 1 := by simp
  rw [hsz1] at hbuf hbel
  have htab : ∀ j, W.cell? ⟨w1.heap.size, j, none⟩ = T[j]? := fun j => by
    have h1 : W.heap[w1.heap.size]? = (w1.alloc (.cells T 141)).heap[w1.heap.size]? := hbel.block _ (by omega)
    rw [heap_alloc_new] at h1
    simp [World.cell?, h1]
  have hBW : Below w.heap.size w W := (hB1.alloc hB1.size _).trans (hbel.mono (by have := hB1.size; omega))
  have HTABLE := Lib.hid htab
  have hle := hB1.size
  clear hsz1 htab hbel hconv
  go_loopw [12] (fun i wr => ∃ k : Nat, k ≤ s.size ∧ i = .int .i64 k ∧ Buf wr (w1.heap.size + 1) 5 (mixUp s.data.toList k) ∧ Below w.heap.size w wr ∧ Hid (∀ j, wr.cell? ⟨w1.heap.size, j, none⟩ = T[j]?)) (fun i _ => s.size - (intOf i).toNat)
  case atStart => exact ⟨0, Nat.zero_le _, rfl, by rw [mixUp_zero]; exact hbuf, hBW, HTABLE⟩
  case round =>
    obtain ⟨k, hk, rfl, hb, hB, HTB⟩ := hrel
    have hlen : (mixUp s.data.toList k).length = s.size := by rw [mixUp_len]; simp
    by_cases hlt : k < s.size
    · have hc := hb.cell k (by omega)
      have hf := hb.free k (by omega)
      have hl : k < s.data.toList.length := by simpa using hlt
      rw [mixUp_at _ _ hl] at hc
      generalize hx : s.data.toList.getD k 0 = x at hc
      have hset := mixUp_set s.data.toList k hl
      rw [hx] at hset
      have htx : wr.cell? ⟨w1.heap.size, x.toNat, none⟩ = some (bv (upB x)) := by rw [HTB.out, HT.out]; exact tab_at x
      generalize hy : upB x = y at htx hset
      have hx1 : (x.toNat : Int) < 256 := by have := x.toNat_lt; omega
      have HST := Lib.hid (hb.store k (by omega) y)
      have HSET := Lib.hid hset
      have HX := Lib.hid hx
      have HY := Lib.hid hy
      have HLEN := Lib.hid hlen
      unfold bv at hc htx
      clear hset hx hlen hy hbuf hBW
      go_wp2
      go_roundw
      case rel =>
        refine ⟨k + 1, by omega, by go_num, ?_, hB.setCell (p := ⟨w1.heap.size + 1, k, none⟩) (by show _ ≤ w1.heap.size + 1; omega) _, Lib.hid (fun j => ?_)⟩
        · have h3 := HST.out
          rw [HSET.out] at h3
          exact h3
        · have hq : ∀ v, (wr.setCell ⟨w1.heap.size + 1, k, none⟩ v).cell? ⟨w1.heap.size, j, none⟩ = wr.cell? ⟨w1.heap.size, j, none⟩ := fun v => cell_far wr _ _ v (by show w1.heap.size + 1 ≠ w1.heap.size; omega)
          exact (hq _).trans (HTB.out j)
      case measure => simp [intOf]; omega
    · rw [mixUp_all _ _ (by simp; omega)] at hb
      have hback := hb.back (P := Try.prog) 22 9 5 cap s.size (by simp [upS]) Try.underlying22 Try.underlying5 Try.underlying9
      have HLEN := Lib.hid hlen
      clear hlen hbuf
      go_wp2
      go_ret
      exact ⟨rfl, hB⟩
end Go.Proofs.Ytjleadlecdcdeaa
