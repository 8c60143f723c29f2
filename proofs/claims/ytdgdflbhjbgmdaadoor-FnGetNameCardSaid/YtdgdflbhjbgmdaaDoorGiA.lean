/-
  Names, read by the program: the walks of impl's unitAt and signsOf.
-/
import Derived.Test.YtdgdflbhjbgmdaaDoorGiP
import Derived.Test.YtdgdflbhjbgmdaaDoorPnX
import Derived.Test.YtdgdflbhjbgmdaaDoorShelf
import Derived.Deep.QuietTactic
import Derived.BigQuiet
namespace Go.Proofs.YtdgdflbhjbgmdaaDoor
set_option linter.unusedVariables false
open Go.RowKit

theorem i32_or8 (x y : Nat) (hx : x < 256) (hy : y < 256) : bits .or .i32 ((x : Int) * 256) (y : Int) = ((x * 256 + y : Nat) : Int) := by
  have h2 : (BitVec.ofInt 32 ((x : Int) * 256) ||| BitVec.ofInt 32 (y : Int)) = BitVec.ofNat 32 (x * 256 + y) := by
    rw [show (x : Int) * 256 = ((x * 256 : Nat) : Int) by omega, BitVec.ofInt_natCast, BitVec.ofInt_natCast]
    apply BitVec.eq_of_toNat_eq
    rw [BitVec.toNat_or, BitVec.toNat_ofNat, BitVec.toNat_ofNat, BitVec.toNat_ofNat, Nat.mod_eq_of_lt (by omega), Nat.mod_eq_of_lt (by omega), Nat.mod_eq_of_lt (by omega)]
    rw [show x * 256 = 2 ^ 8 * x by omega]
    exact (Nat.two_pow_add_eq_or_of_lt (by omega) x).symm
  show IntKind.i32.wrap ((BitVec.ofInt 32 ((x : Int) * 256) ||| BitVec.ofInt 32 (y : Int)).toNat : Nat) = _
  rw [h2, BitVec.toNat_ofNat, IntKind.wrap_i32]
  omega

set_option maxRecDepth 100000 in
set_option maxHeartbeats 400000 in
theorem unitAt_in (s : ByteArray) (k : Nat) (w : World) (hs : s.size ≤ 67108864) (hk : k + 2 ≤ s.size) :
    Calls Tryd.prog 63 #[.string s, .int .i64 k] w fun e w' => e = .returned (.int .i32 (halfAt s.data.toList k : Int)) ∧ Below w.heap.size w w' := by
  have b0 : byteAt s.data.toList k = s[k].toNat := by
    unfold byteAt
    rw [List.getD_eq_getElem?_getD, List.getElem?_eq_getElem (by simp; omega)]
    rfl
  have b1 : byteAt s.data.toList (k + 1) = s[k + 1].toNat := by
    unfold byteAt
    rw [List.getD_eq_getElem?_getD, List.getElem?_eq_getElem (by simp; omega)]
    rfl
  unfold halfAt
  rw [b0, b1]
  clear b0 b1
  have x0 : s[k].toNat < 256 := UInt8.toNat_lt _
  have x1 : s[k + 1].toNat < 256 := UInt8.toNat_lt _
  generalize hx : s[k].toNat = x at x0
  generalize hy : s[k + 1].toNat = y at x1
  have hor := i32_or8 x y x0 x1
  have i1 : (0 : Int) ≤ (k : Int) := by omega
  have i2 : (k : Int) < (s.size : Int) := by omega
  have i3 : (k : Int) + 1 < (s.size : Int) := by omega
  have i4 : (0 : Int) ≤ (k : Int) + 1 := by omega
  have i5 : decide ((s.size : Int) < (k : Int) + 2) = false := by simp; omega
  go_enter Tryd.func63, Tryd.ntmps63
  go_wp2_with fail
  go_quiet (fail)
  go_wp2_with fail
  go_ret
  exact ⟨rfl, below_drewNv (Below.refl _ _) _⟩

set_option maxHeartbeats 400000 in
theorem unitAt_out (s : ByteArray) (k : Nat) (w : World) (hs : s.size ≤ 67108864) (hk : s.size < k + 2) (hk2 : k ≤ 1000000000) :
    Calls Tryd.prog 63 #[.string s, .int .i64 k] w fun e w' => e = .returned (.int .i32 (-1)) ∧ w' = w := by
  have i5 : decide ((s.size : Int) < (k : Int) + 2) = true := by simp; omega
  go_enter Tryd.func63, Tryd.ntmps63
  go_wp2_with fail
  go_ret
  exact ⟨rfl, rfl⟩

/-- What signsOf hands back. -/
def TellsSigns (a : Option (List UInt8)) (w : World) (e : Ending) (w' : World) : Prop :=
  ((∃ o : ByteArray, a = some o.data.toList ∧ e = .returned (.tuple #[.string o, .bool true])) ∨ (a = none ∧ e = .returned (.tuple #[.string ⟨#[]⟩, .bool false]))) ∧ Below w.heap.size w w'

set_option maxRecDepth 100000 in
set_option maxHeartbeats 2000000 in
theorem signsOf_any (s : ByteArray) (w : World) (hs : s.size ≤ 67108864) (hev : s.size % 2 = 0) :
    Calls Tryd.prog 55 #[.string s] w (TellsSigns (signsI s.data.toList) w) := by
  obtain ⟨T, hT⟩ : ∃ T, signsI s.data.toList = T := ⟨_, rfl⟩
  rw [hT]
  have HT := Lib.hid hT
  clear hT
  go_enter Tryd.func55, Tryd.ntmps55
  go_wp2
  go_loopw [4, 5] (fun o i wr => ∃ (k n : Nat) (O : List UInt8), k ≤ s.size ∧ k % 2 = 0 ∧ s.size ≤ k + n ∧ i = .int .i64 (k : Int) ∧ Hid ((signsGo s.data.toList n k).map (O ++ ·) = T) ∧ wr.ownsRow w.heap.size 5 1 o O.length (O.map bv) ∧ O.length ≤ 2 * k ∧ Below w.heap.size w wr) (fun _ i _ => s.size - (intOf i).toNat)
  case atStart => exact ⟨0, s.size, [], by omega, rfl, by omega, rfl, Lib.hid (by rw [← HT.out]; unfold signsI; simp), World.ownsRow_nil _ _ _ _, by simp, Below.refl _ _⟩
  case round =>
    obtain ⟨k, n, O, hk, hke, hn, rfl, HP, hown, hsize, hB⟩ := hrel
    have hlen : s.data.toList.length = s.size := by simp
    have hsz := hB.size
    by_cases hlt : k < s.size
    · obtain ⟨n, rfl⟩ : ∃ m, n = m + 1 := ⟨n - 1, by omega⟩
      have hp := HP.out
      rw [signsGo, if_pos (by omega)] at hp
      have hr := halfAt_lt s.data.toList k
      have U0 := Lib.hid (fun w => unitAt_in s k w hs (by omega))
      generalize halfAt s.data.toList k = r at hp hr U0
      have KEEP : ∀ w2, Below wr.heap.size wr w2 → w2.ownsRow w.heap.size 5 1 _ O.length (O.map bv) ∧ Below w.heap.size w w2 ∧ w.heap.size ≤ w2.heap.size := fun w2 hb => ⟨row_below hown hb (fun g hg => (hown.lt g hg).2), hB.trans (hb.mono hsz), by have := hb.size; omega⟩
      have HKEEP := Lib.hid KEEP
      clear KEEP hown hB
      by_cases hsu : 55296 ≤ r ∧ r < 57344
      · rw [if_pos hsu] at hp
        obtain ⟨s1, s2⟩ := hsu
        have s1' : (55296 : Int) ≤ (r : Int) := by omega
        have s2' : (r : Int) < 57344 := by omega
        by_cases hroom : s.size < k + 4
        · rw [if_pos (by omega)] at hp
          have HN : Hid (T = none) := Lib.hid hp.symm
          have U2 := Lib.hid (fun w => unitAt_out s (k + 2) w hs (by omega) (by omega))
          clear hp
          by_cases h3 : 56320 ≤ r
          · have h3' : (56320 : Int) ≤ (r : Int) := by omega
            go_wp2_with fail
            refine (U0.out _).mono ?_
            rintro e w2 ⟨rfl, hB2⟩
            obtain ⟨hown2, hB2', hsz2⟩ := HKEEP.out w2 hB2
            clear hB2
            go_wp2_with fail
            refine (U2.out _).mono ?_
            rintro e w3 ⟨rfl, rfl⟩
            go_wp2_with fail
            go_ret2
            exact ⟨.inr ⟨HN.out, rfl⟩, hB2'⟩
          · have h3' : decide ((56320 : Int) ≤ (r : Int)) = false := by simp; omega
            go_wp2_with fail
            refine (U0.out _).mono ?_
            rintro e w2 ⟨rfl, hB2⟩
            obtain ⟨hown2, hB2', hsz2⟩ := HKEEP.out w2 hB2
            clear hB2
            go_wp2_with fail
            refine (U2.out _).mono ?_
            rintro e w3 ⟨rfl, rfl⟩
            go_wp2_with fail
            go_ret2
            exact ⟨.inr ⟨HN.out, rfl⟩, hB2'⟩
        · have hlo := halfAt_lt s.data.toList (k + 2)
          have U2 := Lib.hid (fun w => unitAt_in s (k + 2) w hs (by omega))
          generalize halfAt s.data.toList (k + 2) = lo at hp hlo U2
          by_cases hbad : 56320 ≤ r ∨ lo < 56320 ∨ 57344 ≤ lo
          · rw [if_pos (by omega)] at hp
            have HN : Hid (T = none) := Lib.hid hp.symm
            clear hp
            have hpart : (decide ((56320 : Int) ≤ (r : Int)) = true) ∨ (decide ((56320 : Int) ≤ (r : Int)) = false ∧ decide ((lo : Int) < 56320) = true) ∨ (decide ((56320 : Int) ≤ (r : Int)) = false ∧ decide ((lo : Int) < 56320) = false ∧ decide ((57344 : Int) ≤ (lo : Int)) = true) := by
              by_cases g1 : 56320 ≤ r
              · left; simp; omega
              · by_cases g2 : lo < 56320
                · right; left; simp; omega
                · right; right; simp; omega
            clear hbad
            rcases hpart with g1 | ⟨g1, g2⟩ | ⟨g1, g2, g3⟩
            all_goals
              go_wp2_with fail
              refine (U0.out _).mono ?_
              rintro e w2 ⟨rfl, hB2⟩
              obtain ⟨hown2, hB2', hsz2⟩ := HKEEP.out w2 hB2
              clear hB2
              go_wp2_with fail
              refine (U2.out _).mono ?_
              rintro e w3 ⟨rfl, hB3⟩
              go_wp2_with fail
              go_ret2
              exact ⟨.inr ⟨HN.out, rfl⟩, hB2'.trans (hB3.mono hsz2)⟩
          · rw [if_neg (by omega)] at hp
            obtain ⟨R, hR⟩ : ∃ R, R = 65536 + (r - 55296) * 1024 + lo - 56320 := ⟨_, rfl⟩
            have hRi : (65536 + ((r : Int) - 55296) * 1024 + (lo : Int) - 56320) = (R : Int) := by omega
            have HSC : Hid (Scalar R) := Lib.hid ⟨by omega, by omega⟩
            have hR1 : 65536 ≤ R := by omega
            have hR2 : R ≤ 1114111 := by omega
            rw [← hR, Option.map_map] at hp
            have HP2 : Hid (Hid ((signsGo s.data.toList n (k + 4)).map ((O ++ putL R) ++ ·) = T)) := Lib.hid (Lib.hid (by
              rw [← hp]
              congr 1
              funext z
              simp))
            have g1 : decide ((56320 : Int) ≤ (r : Int)) = false := by simp; omega
            have g2 : decide ((lo : Int) < 56320) = false := by simp; omega
            have g3 : decide ((57344 : Int) ≤ (lo : Int)) = false := by simp; omega
            have g4 : (r : Int) < 56320 := by omega
            have g5 : (56320 : Int) ≤ (lo : Int) := by omega
            have g6 : (lo : Int) < 57344 := by omega
            clear hp hbad hR
            go_wp2_with fail
            refine (U0.out _).mono ?_
            rintro e w2 ⟨rfl, hB2⟩
            obtain ⟨hown2', hB2', hsz2'⟩ := HKEEP.out w2 hB2
            clear hB2
            go_wp2_with fail
            refine (U2.out _).mono ?_
            rintro e w3 ⟨rfl, hB3⟩
            have hown2 := row_below hown2' hB3 (fun g hg => (hown2'.lt g hg).2)
            have hB2 := hB2'.trans (hB3.mono hsz2')
            have hsz2 := hB2.size
            clear hB3 hown2' hB2' hsz2'
            go_wp2_with fail
            refine (Tryd.utf8_AppendRune_plain w.heap.size _ O.length (O.map bv) (R : Int) (by omega) (by omega) _ hown2 (by omega) (by omega)).mono ?_
            rintro e w5 ⟨v5, rfl, hown5, o5, hg5⟩
            rw [put_run _ HSC.out] at hown5
            have hrow : w5.ownsRow w.heap.size 5 1 v5 (O ++ putL R).length ((O ++ putL R).map bv) := by
              rw [List.length_append, List.map_append]
              simpa using hown5
            have hpl := put_len R
            have hB5 : Below w.heap.size w w5 := (hB2.alloc (by omega) o5).grown hg5 (by simp; omega) (fun k e => (hown2.lt k e).1)
            clear hown5 hg5
            go_wp2_with fail
            go_roundw
            case rel => exact ⟨k + 4, n, O ++ putL R, by omega, by omega, by omega, by go_num, HP2.out, hrow, by rw [List.length_append]; omega, hB5⟩
            case measure => simp [intOf]; omega
      · rw [if_neg hsu, Option.map_map] at hp
        have HSC : Hid (Scalar r) := Lib.hid ⟨by omega, by omega⟩
        have HP2 : Hid (Hid ((signsGo s.data.toList n (k + 2)).map ((O ++ putL r) ++ ·) = T)) := Lib.hid (Lib.hid (by
          rw [← hp]
          congr 1
          funext z
          simp))
        have hpart : (decide ((55296 : Int) ≤ (r : Int)) = false) ∨ (decide ((55296 : Int) ≤ (r : Int)) = true ∧ decide ((r : Int) < 57344) = false) := by
          by_cases g1 : 55296 ≤ r
          · right; simp; omega
          · left; simp; omega
        clear hp hsu
        rcases hpart with g1 | ⟨g1, g2⟩
        · skip
          go_wp2_with fail
          refine (U0.out _).mono ?_
          rintro e w2 ⟨rfl, hB2⟩
          obtain ⟨hown2, hB2', hsz2⟩ := HKEEP.out w2 hB2
          clear hB2
          have hB2 := hB2'
          clear hB2'
          go_wp2_with fail
          refine (Tryd.utf8_AppendRune_plain w.heap.size _ O.length (O.map bv) (r : Int) (by omega) (by omega) _ hown2 (by omega) (by omega)).mono ?_
          rintro e w5 ⟨v5, rfl, hown5, o5, hg5⟩
          rw [put_run _ HSC.out] at hown5
          have hrow : w5.ownsRow w.heap.size 5 1 v5 (O ++ putL r).length ((O ++ putL r).map bv) := by
            rw [List.length_append, List.map_append]
            simpa using hown5
          have hpl := put_len r
          have hB5 : Below w.heap.size w w5 := (hB2.alloc (by omega) o5).grown hg5 (by simp; omega) (fun k e => (hown2.lt k e).1)
          clear hown5 hg5
          go_wp2_with fail
          go_roundw
          case rel => exact ⟨k + 2, n, O ++ putL r, by omega, by omega, by omega, by go_num, HP2.out, hrow, by rw [List.length_append]; omega, hB5⟩
          case measure => simp [intOf]; omega
        · skip
          go_wp2_with fail
          refine (U0.out _).mono ?_
          rintro e w2 ⟨rfl, hB2⟩
          obtain ⟨hown2, hB2', hsz2⟩ := HKEEP.out w2 hB2
          clear hB2
          have hB2 := hB2'
          clear hB2'
          go_wp2_with fail
          refine (Tryd.utf8_AppendRune_plain w.heap.size _ O.length (O.map bv) (r : Int) (by omega) (by omega) _ hown2 (by omega) (by omega)).mono ?_
          rintro e w5 ⟨v5, rfl, hown5, o5, hg5⟩
          rw [put_run _ HSC.out] at hown5
          have hrow : w5.ownsRow w.heap.size 5 1 v5 (O ++ putL r).length ((O ++ putL r).map bv) := by
            rw [List.length_append, List.map_append]
            simpa using hown5
          have hpl := put_len r
          have hB5 : Below w.heap.size w w5 := (hB2.alloc (by omega) o5).grown hg5 (by simp; omega) (fun k e => (hown2.lt k e).1)
          clear hown5 hg5
          go_wp2_with fail
          go_roundw
          case rel => exact ⟨k + 2, n, O ++ putL r, by omega, by omega, by omega, by go_num, HP2.out, hrow, by rw [List.length_append]; omega, hB5⟩
          case measure => simp [intOf]; omega
    · obtain rfl : k = s.size := by omega
      have hp := HP.out
      rw [signsGo_end _ _ _ (by omega)] at hp
      have HT2 : Hid (T = some O) := Lib.hid (by rw [← hp]; simp)
      have hback := rowJ_back (P := Tryd.prog) hown 22 9 5 Tryd.underlying22 Tryd.underlying5 Tryd.underlying9
      clear hp
      go_wp2_with fail
      go_ret2
      exact ⟨.inl ⟨⟨O.toArray⟩, HT2.out, rfl⟩, hB⟩
end Go.Proofs.YtdgdflbhjbgmdaaDoor
