/-
  The law FnPlain, for every code.
-/
import Derived.Test.YtdgdflbhjbgmdaaDoorPnX
import Derived.Test.YtdgdflbhjbgmdaaDoorTwo
import Derived.Test.YtdgdflbhjbgmdaaDoorDrawB
import Derived.Test.YtdgdflbhjbgmdaaDoorBig
namespace Go.Proofs.YtdgdflbhjbgmdaaDoor
set_option linter.unusedVariables false
open Go.RowKit

set_option maxHeartbeats 400000 in
theorem at_any (a : Option Addr) (len cap : Nat) (zs : List Int) (k : Nat) (w0 w : World) (hr : IsRow .u8 w0 a len cap zs) (hb : Below w0.heap.size w0 w) (hk : k ≤ 1000) (hl : len ≤ 1048576) :
    Calls Tryd.prog 20 #[.slice a len cap, .int .i64 k] w fun e w' => (∃ x : Nat, x ≤ 255 ∧ e = .returned (.int .i64 x)) ∧ w' = w := by
  by_cases h1 : k < len
  · obtain ⟨b, off, n, ha, hcn0, hn0, hn1, hbl⟩ := hr.at k h1
    have hcn : w.cell? ⟨b, off + k, none⟩ = some (.int .u8 n) := (hb.cell (p := ⟨b, off + k, none⟩) hbl).trans hcn0
    obtain ⟨m, rfl⟩ := Int.eq_ofNat_of_zero_le hn0
    have hi1 : (0 : Int) ≤ (k : Int) := by omega
    have hi2 : (k : Int) < (len : Int) := by omega
    rw [ha]
    clear hcn0 hr hb
    go_enter Tryd.func20, Tryd.ntmps20
    go_wp2_with fail
    go_ret
    exact ⟨⟨m, by omega, rfl⟩, rfl⟩
  · have hd : decide ((k : Int) < (len : Int)) = false := by simp; omega
    clear hr hb
    go_enter Tryd.func20, Tryd.ntmps20
    go_wp2_with fail
    go_ret
    exact ⟨⟨(k * 7 + len) % 256, by omega, by simp⟩, rfl⟩

def PlainAll (cs : List Nat) : Prop := ∀ c ∈ cs, 32 ≤ c ∧ c ≤ 126
theorem plain_scalar {cs : List Nat} (h : PlainAll cs) : AllScalar cs := fun c hc => ⟨by have := h c hc; omega, by have := h c hc; omega⟩
theorem plain_bytes : ∀ (cs : List Nat), PlainAll cs → bytesOf cs = cs.map UInt8.ofNat := by
  intro cs
  induction cs with
  | nil => intro _; rfl
  | cons c cs ih =>
    intro h
    rw [bytesOf_cons, ih (fun d hd => h d (List.mem_cons_of_mem _ hd)), put_one c (by have := h c (List.mem_cons_self ..); omega)]
    rfl
theorem plain_put : ∀ (cs ds : List Nat), PlainAll cs → putNm (cs ++ ds) [] = cs.flatMap plainL ++ putNm ds [] := by
  intro cs
  induction cs with
  | nil => intro ds _; rfl
  | cons c cs ih =>
    intro ds h
    rw [List.cons_append, putNm, if_pos (h c (List.mem_cons_self ..)), ih ds (fun d hd => h d (List.mem_cons_of_mem _ hd)), List.flatMap_cons]
    rw [show flushL [] = [] from rfl]
    simp
theorem flat_len (cs : List Nat) (c k : Nat) (h : (cs.flatMap plainL).length ≤ 2 * k) : ((cs ++ [c]).flatMap plainL).length ≤ 2 * (k + 1) := by
  have h1 : ([c].flatMap plainL).length ≤ 2 := by
    simp only [List.flatMap_cons, List.flatMap_nil, List.append_nil]
    unfold plainL
    split <;> simp
  rw [List.flatMap_append, List.length_append]
  omega
theorem put_e : putNm [233] [] = [38, 65, 79, 107, 45] := by decide
theorem bytes_e : bytesOf [233] = [195, 169] := by decide
theorem scalar_e : Scalar 233 := ⟨by decide, by decide⟩

theorem dis_step {v1 v1' v2 : Value} {N : Nat} (D : ∀ g, v1.ownBlock = some g → v2.ownBlock ≠ some g) (hw : ∀ g, v1'.ownBlock = some g → v1.ownBlock = some g ∨ N ≤ g) (h2 : ∀ g, v2.ownBlock = some g → g < N) : ∀ g, v1'.ownBlock = some g → v2.ownBlock ≠ some g := by
  intro g hg e
  rcases hw g hg with h | h
  · exact D g h e
  · have := h2 g e; omega
theorem dis_symm {v1 v2 : Value} (D : ∀ g, v1.ownBlock = some g → v2.ownBlock ≠ some g) : ∀ g, v2.ownBlock = some g → v1.ownBlock ≠ some g := fun g h e => D g e h
theorem puts_is {l : List UInt8} {w w' : World} {e : Ending} {X : ByteArray} (h : PutsName l w e w') (hn : nameOf l = some X.data.toList) : e = .returned (.tuple #[.string X, .bool true]) := by
  rcases h.1 with ⟨o, k, _, rfl⟩ | ⟨k, _, _⟩
  · rw [hn] at k
    have e : X = o := ByteArray.ext (Array.ext' (Option.some.inj k))
    rw [e]
  · rw [hn] at k; cases k
/-- Two rows of bytes of the call's own that share nothing. -/
def TwoRows (B : Nat) (w0 w : World) (v1 v2 : Value) (l1 l2 : List UInt8) : Prop :=
  w.ownsRow B 5 1 v1 l1.length (l1.map bv) ∧ w.ownsRow B 5 1 v2 l2.length (l2.map bv) ∧ (∀ g, v1.ownBlock = some g → v2.ownBlock ≠ some g) ∧ Below B w0 w ∧ B ≤ w.heap.size
theorem TwoRows.one {B : Nat} {w0 w w' : World} {v1 v1' v2 : Value} {l1 l2 : List UInt8} {o : Obj} {b : UInt8} {x : Value} (h : TwoRows B w0 w v1 v2 l1 l2) (hx : x = bv b) (h1 : w'.ownsRow B 5 1 v1' (l1.length + 1) (l1.map bv ++ [x])) (hg : (w.alloc o).grownBy w' v1.ownBlock) (hw : ∀ g, v1'.ownBlock = some g → v1.ownBlock = some g ∨ (w.alloc o).heap.size ≤ g) :
    TwoRows B w0 w' v1' v2 (l1 ++ [b]) l2 := by
  obtain ⟨r1, r2, d, hb, hB⟩ := h
  subst hx
  have hlt2 : ∀ g, v2.ownBlock = some g → g < (w.alloc o).heap.size := fun g h => ((r2.alloc o).lt g h).2
  refine ⟨by rw [List.length_append, List.map_append]; exact h1, row_stays (r2.alloc o) hg d, dis_step d hw hlt2, (hb.alloc hB o).grown hg (by simp; omega) (fun k e => (r1.lt k e).1), ?_⟩
  have := hg.size
  simp at this
  omega
theorem TwoRows.swap {B : Nat} {w0 w : World} {v1 v2 : Value} {l1 l2 : List UInt8} (h : TwoRows B w0 w v1 v2 l1 l2) : TwoRows B w0 w v2 v1 l2 l1 := ⟨h.2.1, h.1, dis_symm h.2.2.1, h.2.2.2⟩

set_option maxRecDepth 100000 in
set_option maxHeartbeats 2000000 in
theorem lawPlain_walk (a0 : Option Addr) (len0 cap0 : Nat) (z0 : List Int) (w : World) (w0 : IsRow .u8 w a0 len0 cap0 z0) (hsh : w.ShapedOpen Tryd.prog) (hT : Tabs8 w) :
    Calls Tryd.prog 6 #[.slice a0 len0 cap0] w fun e w' => e = .returned (.bool true) ∧ Below w.heap.size w w' := by
  obtain ⟨i0, hi, hz0, hz1, hz2⟩ := info_parts infoByteJ
  have W0 := Lib.hid w0
  have HT := Lib.hid hT
  have HM := Lib.hid (maxLenAt_of_shaped hsh)
  clear w0 hT hsh
  by_cases hl : len0 ≤ 1048576
  · go_enter Tryd.func6, Tryd.ntmps6
    go_wp2_with fail
    refine (big_no _ _ _ _ hl).mono ?_
    rintro e w1 ⟨rfl, rfl⟩
    go_wp2_with fail
    go_loopw [3, 4, 5] (fun vs vw i wr => ∃ (k : Nat) (cs : List Nat), k ≤ 12 ∧ cs.length = k ∧ i = .int .i64 (k : Int) ∧ PlainAll cs ∧ TwoRows w1.heap.size w1 wr vs vw (cs.map UInt8.ofNat) (cs.flatMap plainL) ∧ (cs.flatMap plainL).length ≤ 2 * k) (fun _ _ i _ => 12 - (intOf i).toNat)
    case atStart =>
      have z0 : w1.heap.size ≤ (w1.alloc (Obj.cells #[] 5)).heap.size := by rw [World.size_alloc]; omega
      have zl := World.ownsRow_lit (base := w1.heap.size) (e := 5) (size := 1) (w1.alloc (Obj.cells #[] 5)) #[] 0 z0 (by decide) rfl
      rw [World.size_alloc] at zl
      refine ⟨0, [], by omega, rfl, rfl, (fun c hc => nomatch hc), ⟨(World.ownsRow_lit w1 #[] 0 (Nat.le_refl _) (by decide) rfl).alloc _, zl, ?_, ((Below.refl _ _).alloc (Nat.le_refl _) _).alloc z0 _, by rw [World.size_alloc, World.size_alloc]; omega⟩, by simp⟩
      intro g h1 h2
      simp [Value.ownBlock] at h1 h2
      omega
    case round =>
      obtain ⟨k, cs, hk, hlen, rfl, hpl, hR, hfl⟩ := hrel
      have hl1 : (cs.map UInt8.ofNat).length = k := by simpa using hlen
      by_cases hlt : k < 12
      · have hwr := hR.2.2.2.2
        have AT := Lib.hid (at_any a0 len0 cap0 z0 k w1 wr W0.out hR.2.2.2.1 (by omega) hl)
        go_wp2_with fail
        refine AT.out.mono ?_
        rintro e wq ⟨⟨x, hx, rfl⟩, rfl⟩
        have hxx : Value.int .u8 (32 + (x : Int) % 95) = bv (UInt8.ofNat (32 + x % 95)) := by
          rw [bv_nat _ (by omega)]
          congr 1
        have HX := Lib.hid hxx
        have hpl2 : PlainAll (cs ++ [32 + x % 95]) := fun c hc => by
          rcases List.mem_append.1 hc with h | h
          · exact hpl c h
          · rw [List.mem_singleton.1 h]; omega
        have HPL := Lib.hid hpl2
        clear hxx hpl2 hpl
        have hx2 : (0 : Int) ≤ (x : Int) % 95 := by omega
        have hx3 : (x : Int) % 95 < 95 := by omega
        by_cases h38 : x % 95 = 6
        · have t38 : (32 + (x : Int) % 95 == 38) = true := by rw [beq_iff_eq]; omega
          have H38 := Lib.hid h38
          clear h38
          go_wp2_with (first | (at_builtin; refine wpList_append_where rfl _ _ 22 rfl w1.heap.size 5 i0 Tryd.underlying22 hi hz0 hz1 hz2 _ _ _ rfl (hR.1.alloc _) ⟨wq.heap.size, 0, none⟩ 1 1 [.int .u8 (32 + (x : Int) % 95)] rfl rfl (cell_one_new _ _ _) (by simp [Value.oneCell']) (by omega) (by simp; omega) ?_; intro vs2 w2 hO2 hg2 hw2; have T2 := TwoRows.one hR HX.out hO2 hg2 hw2; have hsz2 := T2.2.2.2.2) | (at_builtin; refine wpList_append_where rfl _ _ 22 rfl w1.heap.size 5 i0 Tryd.underlying22 hi hz0 hz1 hz2 _ _ _ rfl (T2.swap.1.alloc _) ⟨w2.heap.size, 0, none⟩ 1 1 [.int .u8 (32 + (x : Int) % 95)] rfl rfl (cell_one_new _ _ _) (by simp [Value.oneCell']) (by omega) (by simp; omega) ?_; intro vw3 w3 hO3 hg3 hw3; have T3 := (TwoRows.one T2.swap HX.out hO3 hg3 hw3).swap; have hsz3 := T3.2.2.2.2) | (at_builtin; refine wpList_append_where rfl _ _ 22 rfl w1.heap.size 5 i0 Tryd.underlying22 hi hz0 hz1 hz2 _ _ _ rfl (T3.swap.1.alloc _) ⟨w3.heap.size, 0, none⟩ 1 1 [.int .u8 45] rfl rfl (cell_one_new _ _ _) (by simp [Value.oneCell']) (by rw [List.length_append, List.length_singleton]; omega) (by simp; omega) ?_; intro vw4 w4 hO4 hg4 hw4; have T4 := (TwoRows.one T3.swap (b := 45) rfl hO4 hg4 hw4).swap; have hsz4 := T4.2.2.2.2))
          have hfin : TwoRows w1.heap.size w1 w4 vs2 vw4 ((cs ++ [32 + x % 95]).map UInt8.ofNat) ((cs ++ [32 + x % 95]).flatMap plainL) := by
            have h := T4
            simpa [plainL, H38.out] using h
          go_roundw
          case rel => exact ⟨k + 1, cs ++ [32 + x % 95], by omega, by simp; omega, by go_num, HPL.out, hfin, flat_len cs _ k hfl⟩
          case measure => simp [intOf]; omega
        · have t38 : (32 + (x : Int) % 95 == 38) = false := by rw [beq_eq_false_iff_ne]; omega
          have H38 := Lib.hid (show ¬ (32 + x % 95 = 38) by omega)
          clear h38
          go_wp2_with (first | (at_builtin; refine wpList_append_where rfl _ _ 22 rfl w1.heap.size 5 i0 Tryd.underlying22 hi hz0 hz1 hz2 _ _ _ rfl (hR.1.alloc _) ⟨wq.heap.size, 0, none⟩ 1 1 [.int .u8 (32 + (x : Int) % 95)] rfl rfl (cell_one_new _ _ _) (by simp [Value.oneCell']) (by omega) (by simp; omega) ?_; intro vs2 w2 hO2 hg2 hw2; have T2 := TwoRows.one hR HX.out hO2 hg2 hw2; have hsz2 := T2.2.2.2.2) | (at_builtin; refine wpList_append_where rfl _ _ 22 rfl w1.heap.size 5 i0 Tryd.underlying22 hi hz0 hz1 hz2 _ _ _ rfl (T2.swap.1.alloc _) ⟨w2.heap.size, 0, none⟩ 1 1 [.int .u8 (32 + (x : Int) % 95)] rfl rfl (cell_one_new _ _ _) (by simp [Value.oneCell']) (by omega) (by simp; omega) ?_; intro vw3 w3 hO3 hg3 hw3; have T3 := (TwoRows.one T2.swap HX.out hO3 hg3 hw3).swap; have hsz3 := T3.2.2.2.2))
          have hfin : TwoRows w1.heap.size w1 w3 vs2 vw3 ((cs ++ [32 + x % 95]).map UInt8.ofNat) ((cs ++ [32 + x % 95]).flatMap plainL) := by
            have h := T3
            simpa [plainL, H38.out] using h
          go_roundw
          case rel => exact ⟨k + 1, cs ++ [32 + x % 95], by omega, by simp; omega, by go_num, HPL.out, hfin, flat_len cs _ k hfl⟩
          case measure => simp [intOf]; omega
      · obtain rfl : k = 12 := by omega
        obtain ⟨rS, rW, _, hB, hBs⟩ := hR
        have hb1 := plain_bytes cs hpl
        have hsc := plain_scalar hpl
        have hsc2 : AllScalar (cs ++ [233]) := fun c hc => by
          rcases List.mem_append.1 hc with h | h
          · exact hsc c h
          · rw [List.mem_singleton.1 h]; exact scalar_e
        have hnm1 : nameOf (cs.map UInt8.ofNat) = some (cs.flatMap plainL) := by
          rw [← hb1, nameOf_bytes cs hsc]
          have := plain_put cs [] hpl
          rw [List.append_nil] at this
          rw [this]
          simp [putNm, flushL]
        have hnm2 : nameOf (cs.map UInt8.ofNat ++ [195, 169]) = some (cs.flatMap plainL ++ [38, 65, 79, 107, 45]) := by
          rw [← hb1, ← bytes_e, ← bytesOf_app, nameOf_bytes _ hsc2, plain_put cs [233] hpl, put_e]
        clear hb1 hsc hsc2 hpl
        have hback := rowJ_back (P := Tryd.prog) rS 22 9 5 Tryd.underlying22 Tryd.underlying5 Tryd.underlying9
        have hS : (⟨(cs.map UInt8.ofNat).toArray⟩ : ByteArray).size = 12 := by show (cs.map UInt8.ofNat).toArray.size = 12; simpa using hlen
        have hSl : (⟨(cs.map UInt8.ofNat).toArray⟩ : ByteArray).data.toList = cs.map UInt8.ofNat := rfl
        rw [← hSl] at hnm1 hnm2
        have hWl : (⟨(cs.flatMap plainL).toArray⟩ : ByteArray).data.toList = cs.flatMap plainL := rfl
        have hWs : (⟨(cs.flatMap plainL).toArray⟩ : ByteArray).size ≤ 24 := by show (cs.flatMap plainL).toArray.size ≤ 24; rw [List.size_toArray]; exact hfl
        rw [← hWl] at hnm1 hnm2
        have hback2 := hback
        generalize hSS : (⟨(cs.map UInt8.ofNat).toArray⟩ : ByteArray) = S at hback hS hnm1 hnm2
        generalize hWW : (⟨(cs.flatMap plainL).toArray⟩ : ByteArray) = X at hnm1 hnm2 hWs
        have HWW := Lib.hid hWW
        have HSS := Lib.hid hSS
        have HN1 := Lib.hid hnm1
        have HN2 := Lib.hid hnm2
        have RW := Lib.hid rW
        have RS := Lib.hid rS
        clear hnm1 hnm2 hSl hWl hback2 hSS hWW hfl hlen hl1
        have z2 : (⟨#[195, 169]⟩ : ByteArray).size = 2 := rfl
        have z5 : (⟨#[38, 65, 79, 107, 45]⟩ : ByteArray).size = 5 := rfl
        have HN3 : Hid (nameOf (S ++ ⟨#[195, 169]⟩).data.toList = some (X ++ ⟨#[38, 65, 79, 107, 45]⟩).data.toList) := Lib.hid (by
          have := HN2.out
          rw [ByteArray.data_append, ByteArray.data_append, Array.toList_append, Array.toList_append]
          exact this)
        have HZ : Hid ((S ++ ⟨#[195, 169]⟩).size ≤ 4194304) := Lib.hid (by rw [ByteArray.size_append]; omega)
        clear HN2
        go_wp2_with fail
        refine (implPutName_any S _ (by omega) (HT.out.later hB) (HM.out.after hB)).mono ?_
        intro e2 w2 hr2
        have hB2 := hr2.2
        obtain rfl := puts_is hr2 HN1.out
        have rS2 := row_below RS.out hB2 (fun g hg => (RS.out.lt g hg).2)
        have hbk2 := rowJ_back (P := Tryd.prog) rS2 22 9 5 Tryd.underlying22 Tryd.underlying5 Tryd.underlying9
        rw [HSS.out] at hbk2
        have B2 := Lib.hid (hB.trans (hB2.mono hBs))
        have rW2 := Lib.hid (row_below RW.out hB2 (fun g hg => (RW.out.lt g hg).2))
        clear hr2 rS2 rS rW hB2 hback
        go_wp2_with fail
        refine (implPutName_any _ _ HZ.out (HT.out.later B2.out) (HM.out.after B2.out)).mono ?_
        intro e3 w3 hr3
        have hB3 := hr3.2
        obtain rfl := puts_is hr3 HN3.out
        have rW3 := row_below rW2.out hB3 (fun g hg => (rW2.out.lt g hg).2)
        have hbk3 := rowJ_back (P := Tryd.prog) rW3 22 9 5 Tryd.underlying22 Tryd.underlying5 Tryd.underlying9
        rw [HWW.out] at hbk3
        have B3 := Lib.hid (B2.out.trans (hB3.mono B2.out.size))
        clear hr3 rW3 hB3 hbk2
        go_wp2_with fail
        go_ret
        exact ⟨rfl, B3.out⟩
  · go_enter Tryd.func6, Tryd.ntmps6
    go_wp2_with (go_at_call 10; refine (big_yes _ _ _ _ (by omega)).mono ?_; rintro e w1 ⟨rfl, rfl⟩)
    go_ret
    exact ⟨rfl, Below.refl _ _⟩
end Go.Proofs.YtdgdflbhjbgmdaaDoor
