/-
  Names: the walks of spec's l02Half, l02Halves, l02Swap, l02Flush.
-/
import Derived.Test.YtdgdflbhjbgmdaaDoorPnP
import Derived.Lib.Strings
namespace Go.Proofs.YtdgdflbhjbgmdaaDoor
set_option linter.unusedVariables false
open Go.RowKit

def mixF (f : UInt8 → UInt8) (l : List UInt8) (k : Nat) : List UInt8 := (l.take k).map f ++ l.drop k
theorem mixF_len (f : UInt8 → UInt8) (l : List UInt8) (k : Nat) : (mixF f l k).length = l.length := by
  simp [mixF]; omega
theorem mixF_zero (f : UInt8 → UInt8) (l : List UInt8) : mixF f l 0 = l := by simp [mixF]
theorem mixF_all (f : UInt8 → UInt8) (l : List UInt8) (k : Nat) (h : l.length ≤ k) : mixF f l k = l.map f := by
  simp [mixF, List.take_of_length_le h, List.drop_eq_nil_of_le h]
theorem mixF_at (f : UInt8 → UInt8) (l : List UInt8) (k : Nat) (h : k < l.length) : (mixF f l k).getD k 0 = l.getD k 0 := by
  simp [mixF, List.getD, List.getElem?_append, show min k l.length = k by omega]
theorem mixF_set (f : UInt8 → UInt8) (l : List UInt8) (k : Nat) (h : k < l.length) : (mixF f l k).set k (f (l.getD k 0)) = mixF f l (k + 1) := by
  apply List.ext_getElem?
  intro i
  simp only [mixF, List.getElem?_set, List.getElem?_append, List.length_map, List.length_take, List.getElem?_map, List.getElem?_take, List.getElem?_drop, List.length_append, List.length_drop, List.getD]
  rw [show min k l.length = k by omega, show min (k + 1) l.length = k + 1 by omega]
  by_cases e : k = i
  · subst e
    rw [if_pos rfl, if_pos (by omega), if_pos (by omega), if_pos (by omega), List.getElem?_eq_getElem h]
    rfl
  · rw [if_neg e]
    by_cases h1 : i < k
    · rw [if_pos h1, if_pos h1, if_pos (by omega), if_pos (by omega)]
    · rw [if_neg h1, if_neg (by omega)]
      congr 1
      omega
theorem mixF_keep (f : UInt8 → UInt8) (l : List UInt8) (k : Nat) (h : k < l.length) (hb : f (l.getD k 0) = l.getD k 0) : mixF f l k = mixF f l (k + 1) := by
  rw [← mixF_set f l k h, hb, ← mixF_at f l k h]
  apply List.ext_getElem?
  intro i
  rw [List.getElem?_set]
  by_cases e : k = i
  · subst e
    have := mixF_len f l k
    rw [if_pos rfl, if_pos (by omega), List.getD, List.getElem?_eq_getElem (by omega)]
    rfl
  · rw [if_neg e]

set_option maxRecDepth 100000 in
set_option maxHeartbeats 400000 in
theorem swap_any (s : ByteArray) (a b : UInt8) (w : World) (hs : s.size ≤ 1000000000) :
    Calls Tryd.prog 36 #[.string s, .int .u8 a.toNat, .int .u8 b.toNat] w fun e w' => e = .returned (.string ⟨(swapL a b s.data.toList).toArray⟩) ∧ Below w.heap.size w w' := by
  obtain ⟨W, cap, hconv, hbuf, hbel, hsz⟩ := conv_bytes (P := Tryd.prog) w 9 22 5 s Tryd.underlying9 Tryd.underlying22 Tryd.underlying5
  have HS := Lib.hid hsz
  clear hsz
  go_enter Tryd.func36, Tryd.ntmps36
  go_wp2
  go_loopw [8] (fun i wr => ∃ k : Nat, k ≤ s.size ∧ i = .int .i64 k ∧ Buf wr w.heap.size 5 (mixF (swapB a b) s.data.toList k) ∧ Below w.heap.size w wr) (fun i _ => s.size - (intOf i).toNat)
  case atStart => exact ⟨0, Nat.zero_le _, rfl, by rw [mixF_zero]; exact hbuf, hbel⟩
  case round =>
    obtain ⟨k, hk, rfl, hb, hB⟩ := hrel
    have hlen : (mixF (swapB a b) s.data.toList k).length = s.size := by rw [mixF_len]; simp
    by_cases hlt : k < s.size
    · have hc := hb.cell k (by omega)
      have hf := hb.free k (by omega)
      have hl : k < s.data.toList.length := by simpa using hlt
      rw [mixF_at _ _ _ hl] at hc
      generalize hx : s.data.toList.getD k 0 = x at hc
      have hset := mixF_set (swapB a b) s.data.toList k hl
      have hkeep := mixF_keep (swapB a b) s.data.toList k hl
      rw [hx] at hset hkeep
      unfold bv at hc
      have hst := hb.store k (by omega)
      have HST := Lib.hid hst
      have HSET := Lib.hid hset
      have HKEEP := Lib.hid hkeep
      have HX := Lib.hid hx
      have HLEN := Lib.hid hlen
      clear hst hset hkeep hx hlen
      by_cases hup : x = a
      · have t1 : ((x.toNat : Int) == (a.toNat : Int)) = true := by rw [hup, beq_iff_eq]
        have HUP := Lib.hid hup
        clear hup
        go_wp2_with fail
        go_roundw
        case rel =>
          refine ⟨k + 1, by omega, by go_num, ?_, hB.setCell (p := ⟨w.heap.size, k, none⟩) (Nat.le_refl _) _⟩
          have h3 := HST.out b
          have h4 : swapB a b x = b := by unfold swapB; rw [if_pos HUP.out]
          have h5 := HSET.out
          rw [h4] at h5
          rw [h5] at h3
          exact h3
        case measure => simp [intOf]; omega
      · have t1 : ((x.toNat : Int) == (a.toNat : Int)) = false := by
          rw [beq_eq_false_iff_ne]
          intro e
          exact hup (UInt8.toNat_inj.1 (by omega))
        have HUP := Lib.hid hup
        clear hup
        go_wp2_with fail
        go_roundw
        case rel =>
          refine ⟨k + 1, by omega, by go_num, ?_, hB⟩
          rw [← HKEEP.out (by unfold swapB; rw [if_neg HUP.out])]
          exact hb
        case measure => simp [intOf]; omega
    · rw [mixF_all _ _ _ (by simp; omega)] at hb
      have hback := hb.back (P := Tryd.prog) 22 9 5 cap s.size (by simp) Tryd.underlying22 Tryd.underlying5 Tryd.underlying9
      have HLEN := Lib.hid hlen
      clear hlen
      go_wp2
      go_ret
      exact ⟨rfl, hB⟩

set_option maxRecDepth 100000 in
set_option maxHeartbeats 400000 in
theorem half_any (n : Nat) (w : World) (hn : n < 65536) :
    Calls Tryd.prog 44 #[.int .i64 n] w fun e w' => e = .returned (.string ⟨(unit2 n).toArray⟩) ∧ Below w.heap.size w w' := by
  have e1 : bv (UInt8.ofNat (n / 256)) = .int .u8 ((n : Int) / 256) := by
    rw [bv_nat _ (by omega)]
    congr 1
  have e2 : bv (UInt8.ofNat n) = .int .u8 ((n : Int) % 256) := by
    unfold bv
    rw [UInt8.toNat_ofNat']
    congr 1
  have hback := lit_back (P := Tryd.prog) w 5 22 9 (unit2 n) [.int .u8 ((n : Int) / 256), .int .u8 ((n : Int) % 256)] 2 (by unfold unit2; rw [List.map_cons, List.map_cons, List.map_nil, e1, e2]) rfl Tryd.underlying22 Tryd.underlying5 Tryd.underlying9
  generalize unit2 n = u at hback
  clear e1 e2
  go_enter Tryd.func44, Tryd.ntmps44
  go_wp2_with fail
  go_ret
  exact ⟨rfl, (Below.refl _ _).alloc (Nat.le_refl _) _⟩

set_option maxRecDepth 100000 in
set_option maxHeartbeats 400000 in
theorem halves_any (r : Nat) (w : World) (hr : r ≤ 1114111) :
    Calls Tryd.prog 29 #[.int .i64 r] w fun e w' => e = .returned (.string ⟨(halvesL r).toArray⟩) ∧ Below w.heap.size w w' := by
  by_cases h1 : r < 65536
  · have e : halvesL r = unit2 r := by unfold halvesL; rw [if_pos h1]
    have H1 := Lib.hid (fun w => half_any r w h1)
    rw [e]
    have h1' : (r : Int) < 65536 := by omega
    clear e
    go_enter Tryd.func29, Tryd.ntmps29
    go_wp2_with fail
    refine (H1.out _).mono ?_
    rintro e w1 ⟨rfl, hB1⟩
    go_wp2_with fail
    go_ret
    exact ⟨rfl, hB1⟩
  · have e : halvesL r = unit2 (55296 + (r - 65536) / 1024) ++ unit2 (56320 + (r - 65536) % 1024) := by unfold halvesL; rw [if_neg h1]
    have e1 : ((55296 + (r - 65536) / 1024 : Nat) : Int) = 55296 + ((r : Int) - 65536) / 1024 := by omega
    have e2 : ((56320 + (r - 65536) % 1024 : Nat) : Int) = 56320 + ((r : Int) - 65536) % 1024 := by omega
    have u1 := fun w => half_any (55296 + (r - 65536) / 1024) w (by omega)
    have u2 := fun w => half_any (56320 + (r - 65536) % 1024) w (by omega)
    rw [e1] at u1
    rw [e2] at u2
    have H1 := Lib.hid u1
    have H2 := Lib.hid u2
    have h1' : decide ((r : Int) < 65536) = false := by simp; omega
    have h2' : (65536 : Int) ≤ (r : Int) := by omega
    have h3' : (r : Int) ≤ 1114111 := by omega
    rw [e]
    clear e e1 e2 u1 u2
    have hl1 : (unit2 (55296 + (r - 65536) / 1024)).length = 2 := rfl
    have hl2 : (unit2 (56320 + (r - 65536) % 1024)).length = 2 := rfl
    generalize unit2 (55296 + (r - 65536) / 1024) = a at H1 hl1 ⊢
    generalize unit2 (56320 + (r - 65536) % 1024) = b at H2 hl2 ⊢
    go_enter Tryd.func29, Tryd.ntmps29
    go_wp2_with fail
    refine (H1.out _).mono ?_
    rintro e w1 ⟨rfl, hB1⟩
    go_wp2_with fail
    refine (H2.out _).mono ?_
    rintro e w2 ⟨rfl, hB2⟩
    go_wp2_with fail
    go_ret
    exact ⟨by rw [← ByteArray.mk_append_mk]; rfl, hB1.trans (hB2.mono hB1.size)⟩

set_option maxRecDepth 100000 in
set_option maxHeartbeats 400000 in
theorem flush_any (s : ByteArray) (w : World) (hs : s.size ≤ 67108864) :
    Calls Tryd.prog 28 #[.string s] w fun e w' => e = .returned (.string ⟨(flushL s.data.toList).toArray⟩) ∧ Below w.heap.size w w' := by
  by_cases he : s.size = 0
  · have e : s = ⟨#[]⟩ := by
      apply ByteArray.ext
      apply Array.ext'
      have : s.data.toList.length = 0 := by simpa using he
      exact List.eq_nil_of_length_eq_zero this
    subst e
    go_enter Tryd.func28, Tryd.ntmps28
    go_wp2_with fail
    go_ret
    exact ⟨rfl, Below.refl _ _⟩
  · have hne : s.data.toList ≠ [] := by
      intro e
      apply he
      have := congrArg List.length e
      simpa using this
    have hemp : s.toList.isEmpty = false := by
      rw [Lib.toList_data]
      cases h : s.data.toList with
      | nil => exact absurd h hne
      | cons x l => rfl
    have hfl : flushL s.data.toList = [38] ++ swapL 47 44 (b64 s.data.toList) ++ [45] := by unfold flushL; rw [if_neg hne]
    have hbl := b64_len s.data.toList
    have hll : s.data.toList.length = s.size := by simp
    have hP := fun w => specPutB64_any s w hs
    have hus : (⟨(b64 s.data.toList).toArray⟩ : ByteArray).size ≤ 100000000 := by show (b64 s.data.toList).toArray.size ≤ _; rw [List.size_toArray]; omega
    have hS := fun w => swap_any ⟨(b64 s.data.toList).toArray⟩ 47 44 w (by omega)
    have hul : (⟨(swapL 47 44 (b64 s.data.toList)).toArray⟩ : ByteArray).size ≤ 100000000 := by show (swapL 47 44 (b64 s.data.toList)).toArray.size ≤ _; rw [List.size_toArray, swapL_len]; omega
    rw [hfl]
    generalize hB : b64 s.data.toList = B at hP hus hS hul ⊢
    have hS2 : ∀ w, Calls Tryd.prog 36 #[.string ⟨B.toArray⟩, .int .u8 47, .int .u8 44] w fun e w' => e = .returned (.string ⟨(swapL 47 44 B).toArray⟩) ∧ Below w.heap.size w w' := hS
    clear hS hB hfl hbl hne hll
    generalize swapL 47 44 B = C at hul hS2 ⊢
    generalize hU : (⟨B.toArray⟩ : ByteArray) = U at hP hS2 hus
    have HP := Lib.hid hP
    have HS := Lib.hid hS2
    have e3 : (⟨([38] ++ C ++ [45]).toArray⟩ : ByteArray) = ⟨#[38]⟩ ++ ⟨C.toArray⟩ ++ ⟨#[45]⟩ := by
      rw [show (⟨#[38]⟩ : ByteArray) = ⟨[38].toArray⟩ from rfl, show (⟨#[45]⟩ : ByteArray) = ⟨[45].toArray⟩ from rfl, ByteArray.mk_append_mk, ByteArray.mk_append_mk]
    rw [e3]
    generalize (⟨C.toArray⟩ : ByteArray) = V at HS hul ⊢
    clear hP hS2 hU e3
    go_enter Tryd.func28, Tryd.ntmps28
    go_wp2_with fail
    refine (HP.out _).mono ?_
    rintro e w1 ⟨rfl, hB1⟩
    go_wp2_with fail
    refine (HS.out _).mono ?_
    rintro e w2 ⟨rfl, hB2⟩
    have z1 : (⟨#[38]⟩ : ByteArray).size = 1 := rfl
    have z2 : (⟨#[45]⟩ : ByteArray).size = 1 := rfl
    go_wp2_with fail
    go_ret
    exact ⟨rfl, hB1.trans (hB2.mono hB1.size)⟩
end Go.Proofs.YtdgdflbhjbgmdaaDoor
