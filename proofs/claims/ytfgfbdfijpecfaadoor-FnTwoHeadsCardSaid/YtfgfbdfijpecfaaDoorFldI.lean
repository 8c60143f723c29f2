/-
  Header fields: the walk of impl's Fields.
-/
import Derived.Test.YtfgfbdfijpecfaaDoorFieldsIs
import Derived.Test.YtfgfbdfijpecfaaDoorGrpI
import Derived.Test.YtfgfbdfijpecfaaDoorRdF
import Derived.Test.YtfgfbdfijpecfaaDoorColI
import Derived.Lib.Join
namespace Go.Proofs.YtfgfbdfijpecfaaDoor
set_option linter.unusedVariables false
open Go.RowKit

theorem join_empty (L : List (List UInt8)) : Lib.join L [] = L.flatten := by
  cases L with
  | nil => rfl
  | cons x r => rw [Lib.join_cons]; simp [Lib.joinTail]
theorem flatten_len (L : List (List UInt8)) : L.flatten.length = total L := by
  induction L with
  | nil => rfl
  | cons x r ih => rw [List.flatten_cons, List.length_append, ih, total_cons]
theorem total_take (L : List (List UInt8)) (n : Nat) : total (L.take n) ≤ total L := by
  have : total L = total (L.take n) + total (L.drop n) := by rw [← total_append, List.take_append_drop]
  omega
theorem total_drop (L : List (List UInt8)) (n : Nat) : total (L.drop n) ≤ total L := by
  have : total L = total (L.take n) + total (L.drop n) := by rw [← total_append, List.take_append_drop]
  omega
theorem textOf_len (L : List (List UInt8)) (x : Nat × Nat) : (textOf L x).length ≤ total L := by
  unfold textOf
  rw [flatten_len]
  exact Nat.le_trans (total_drop _ _) (total_take _ _)
theorem pcs_total {r : ByteArray} {ps : List ByteArray} (h : Pcs crlf r ps) : total (ps.map (·.data.toList)) ≤ r.size ∧ ps.length ≤ r.size + 2 := by
  have hl : r.data.toList.length = r.size := by simp
  have h1 := total_lines _ [] r.data.toList (Nat.le_refl _)
  have h2 : (ps.map (·.data.toList)).length = ps.length := by simp
  rcases pcs_linesA h with e | e
  · rw [e] at h2 ⊢
    simp at h1
    omega
  · rw [e] at h2 ⊢
    rw [total_append]
    simp [total] at h1 h2 ⊢
    omega

set_option maxRecDepth 100000 in
set_option maxHeartbeats 1000000 in
/-- strings.Join of a group. -/
theorem joined_any (g : Nat) (full : List ByteArray) (x : Nat × Nat) (w : World) (hg : g < w.heap.size) (hc : ∀ (j : Nat) y, full[j]? = some y → w.cell? ⟨g, j, none⟩ = some (.string y)) (h1 : x.1 < x.2) (h2 : x.2 ≤ full.length) (hf : full.length ≤ 16777216) (ht : total (full.map (·.data.toList)) ≤ 16777216) :
    Calls Tryd.prog 24 #[grpV g x, .string ⟨#[]⟩] w fun e w' => e = .returned (.string (mkB (textOf (full.map (·.data.toList)) x))) ∧ Below w.heap.size w w' := by
  obtain ⟨a, b⟩ := x
  have hlen : ((full.take b).drop a).length = b - a := by rw [List.length_drop, List.length_take]; omega
  have hte : Lib.join (((full.take b).drop a).map (·.data.toList)) (⟨#[]⟩ : ByteArray).data.toList = textOf (full.map (·.data.toList)) (a, b) := by
    show Lib.join _ [] = _
    rw [join_empty]
    unfold textOf
    simp only [List.map_drop, List.map_take]
  have h := Tryd.strings_Join g a (b - a) ((full.take b).drop a) ⟨#[]⟩ w (fun j y hy => by
      rw [List.getElem?_drop] at hy
      have hj : a + j < b := by
        have := (List.getElem?_eq_some_iff.1 hy).1
        rw [List.length_take] at this
        omega
      rw [List.getElem?_take_of_lt hj] at hy
      exact hc _ _ hy) hg (by rw [hlen]; simp at h2; omega) (Nat.le_of_eq hlen) (by rw [hte]; have := textOf_len (full.map (·.data.toList)) (a, b); omega)
  rw [hlen, hte] at h
  exact h

set_option maxRecDepth 100000 in
set_option maxHeartbeats 2000000 in
theorem implFields_is : FieldsIs := by
  intro s w hML hs
  obtain ⟨full, hp⟩ := pcs_exists crlf (by decide) s.size s (Nat.le_refl _)
  obtain ⟨ht, hn⟩ := pcs_total hp
  have hpos := hp.pos
  have hfl := fields_pcs hp
  obtain ⟨R, hR⟩ : ∃ R, fieldsL s.data.toList = R := ⟨_, rfl⟩
  rw [hR] at hfl ⊢
  clear hR
  have h1 := hML.lt
  have HML := Lib.hid hML
  have hB2 : Below w.heap.size w ((w.alloc (.cells #[.string s] 9)).alloc (.cells #[.string crlf] 9)) := ((Below.refl _ w).alloc (Nat.le_refl _) _).alloc (by simp) _
  have hc0 : ((w.alloc (.cells #[.string s] 9)).alloc (.cells #[.string crlf] 9)).cell? ⟨w.heap.size, 0, none⟩ = some (.string s) := ((Boxed.new w 9 (.string s)).alloc (.cells #[.string crlf] 9)).cell
  have hc1 : ((w.alloc (.cells #[.string s] 9)).alloc (.cells #[.string crlf] 9)).cell? ⟨w.heap.size + 1, 0, none⟩ = some (.string crlf) := by
    have := (Boxed.new (w.alloc (.cells #[.string s] 9)) 9 (.string crlf)).cell
    rwa [World.size_alloc] at this
  have HCO := Lib.hid (collect_in w.heap.size (w.heap.size + 1) crlf s full hp (by omega) (by decide) (by omega) _ (by simp; omega) (by simp) (hML.after hB2) hc0 hc1)
  have HB2 := Lib.hid hB2
  obtain ⟨j0, hj, hy0, hy1, hy2⟩ := info_parts infoFl
  clear hML hc0 hc1 hB2 hp
  go_enter Tryd.func8, Tryd.ntmps8
  go_wp2_with (go_at_call 22; refine (piecesOf_any _ _ _).mono ?_; rintro e w' ⟨rfl, hw⟩; rw [hw]; clear hw w')
  refine HCO.out.mono ?_
  rintro e w3 ⟨v1, rfl, hr1, hB3⟩
  have HB3 := Lib.hid (HB2.out.trans (hB3.mono HB2.out.size))
  have hlt1 := hr1.lt
  obtain ⟨g, cap, cur, rfl, hbase, hgb, hcap, hcm, hcz, hcl⟩ : ∃ g cap cur, v1 = .slice (some ⟨g, 0, none⟩) full.length cap ∧ ((w.alloc (.cells #[.string s] 9)).alloc (.cells #[.string crlf] 9)).heap.size ≤ g ∧ w3.heap[g]? = some (.cells cur 9 (0, 0)) ∧ full.length ≤ cap ∧ cap ≤ maxLen ∧ cur.size = cap * 1 ∧ cur.toList.take (full.length * 1) = full.map Value.string := by
    rcases hr1.2 with ⟨_, h0⟩ | h'
    · exact absurd h0 (by omega)
    · exact h'
  have hg3 : g < w3.heap.size := (hlt1 g rfl).2
  have hcells : ∀ (j : Nat) x, full[j]? = some x → w3.cell? ⟨g, j, none⟩ = some (.string x) := fun j x hx => by
    have hj : j < full.length := (List.getElem?_eq_some_iff.1 hx).1
    have h := hr1.cellAt j (by omega)
    rw [h]
    simp [hx]
  have HC3 := Lib.hid hcells
  have HG := Lib.hid (groups_any g cap full w3 hg3 hcells hpos hcap (by omega))
  clear hr1 hB3 hlt1 hbase hgb hcm hcz hcl hcells HCO HB2
  have hgl := grpF_le (full.map (·.data.toList)) full.length
  have hall := grp_all (full.map (·.data.toList)) (by simp; omega)
  rw [List.length_map] at hall
  rw [← hall] at hfl
  obtain ⟨G, hGe⟩ : ∃ G, (grpF (full.map (·.data.toList)) full.length).1 = G := ⟨_, rfl⟩
  rw [hGe] at HG hgl hfl
  have HGL := Lib.hid hgl.2.2
  have hGn := hgl.2.1
  have HFL := Lib.hid hfl
  clear hgl hall hGe hfl
  go_wp2_with fail
  refine HG.out.mono ?_
  rintro e w4 ⟨v2, rfl, hr2, hB4⟩
  have HB4 := Lib.hid (HB3.out.trans (hB4.mono HB3.out.size))
  have HC4 := Lib.hid (fun (j : Nat) x (hx : full[j]? = some x) => (hB4.cell (p := ⟨g, j, none⟩) hg3).trans (HC3.out j x hx))
  have hg4 : g < w4.heap.size := Nat.lt_of_lt_of_le hg3 hB4.size
  have HR2 := Lib.hid hr2
  obtain ⟨p2, cap2, hp2⟩ := row_slice hr2
  subst hp2
  have HM4 := Lib.hid (HML.out.after HB4.out)
  clear hB4 hr2 HG HC3 HB3 HML
  go_wp2_with fail
  go_loopw [3, 13] (fun o i wr => ∃ (k : Nat) (out : List Fl), k ≤ G.length ∧ i = .int .i64 (k : Int) ∧ Hid (out ++ ((G.drop k).map (textOf (full.map (·.data.toList)))).filterMap fieldOf = R) ∧ out.length ≤ k ∧ wr.ownsRow w4.heap.size 30 2 o out.length (flCells out) ∧ Hid (Below w4.heap.size w4 wr)) (fun _ i _ => G.length - (intOf i).toNat)
  case atStart => exact ⟨0, [], Nat.zero_le _, rfl, Lib.hid (by simpa using HFL.out), Nat.le_refl _, World.ownsRow_nil _ _ _ _, Lib.hid (Below.refl _ _)⟩
  case round =>
    obtain ⟨k, out, hk, rfl, HP, hol, hown, HBA⟩ := hrel
    have hsA := HBA.out.size
    by_cases hlt : k < G.length
    · have g2 : decide ((k : Int) < (G.length : Int)) = true := by simp; omega
      have i1 : (0 : Int) ≤ (k : Int) := by omega
      have i2 : (k : Int) < (G.length : Int) := by omega
      have hrow := row_lat HR2.out HBA.out
      obtain ⟨gt, ct, hgt⟩ := row_slice1 hrow (by omega)
      injection hgt with hgt1 hgt2 hgt3
      subst hgt1 hgt3
      have hcell : wr.cell? ⟨gt, k, none⟩ = some (grpV g G[k]) := by
        have := hrow.cellAt k (by omega)
        rw [this]
        simp [hlt]
      have hx := HGL.out G[k] (List.getElem_mem hlt)
      have HP2 := HP.out
      rw [drop_cons G k hlt, List.map_cons] at HP2
      generalize G[k] = X at hcell hx HP2
      have JO := Lib.hid (joined_any g full X wr (Nat.lt_of_lt_of_le hg4 hsA) (fun j y hy => (HBA.out.cell (p := ⟨g, j, none⟩) hg4).trans (HC4.out j y hy)) hx.1 hx.2 (by omega) (by omega))
      have htl := textOf_len (full.map (·.data.toList)) X
      generalize hT : textOf (full.map (·.data.toList)) X = T at JO htl HP2
      have FS := fun w h => implField_any (mkB T) w h (by rw [mkB_size]; omega)
      rw [mkB_list] at FS
      have HML5 := Lib.hid (fun W (h : Below wr.heap.size wr W) => HM4.out.after (HBA.out.trans (h.mono hsA)))
      clear hx htl hT hrow
      cases hf : fieldOf T with
      | none =>
        have HN : Hid (out ++ ((G.drop (k + 1)).map (textOf (full.map (·.data.toList)))).filterMap fieldOf = R) := Lib.hid (by rw [← HP2, List.filterMap_cons, hf])
        rw [show fieldV T = .tuple #[.agg #[.string ⟨#[]⟩, .string ⟨#[]⟩], .bool false] by rw [fieldV, hf]] at FS
        have FSH := Lib.hid FS
        clear FS HP2 HP hf
        go_wp2_with (first | (go_at_call 24; refine JO.out.mono ?_; rintro e w5 ⟨rfl, hB5⟩) | (go_at_call 23; refine (FSH.out _ (HML5.out _ hB5)).mono ?_; rintro e w6 ⟨rfl, hB6⟩))
        have hB7 : Below wr.heap.size wr (w6.alloc (.cells #[.string ⟨#[]⟩, .string ⟨#[]⟩] 30)) := (hB5.trans (hB6.mono hB5.size)).alloc (hB5.trans (hB6.mono hB5.size)).size _
        have HROW := Lib.hid (row_lat hown hB7)
        have HBA7 := Lib.hid (HBA.out.trans (hB7.mono hsA))
        clear hB5 hB6 hB7 hown
        go_wp2_with fail
        go_roundw
        case rel => exact ⟨k + 1, out, by omega, by go_num, HN, by omega, HROW.out, HBA7⟩
        case measure => simp [intOf]; omega
      | some f =>
        have HN : Hid ((out ++ [f]) ++ ((G.drop (k + 1)).map (textOf (full.map (·.data.toList)))).filterMap fieldOf = R) := Lib.hid (by rw [← HP2, List.filterMap_cons, hf]; simp)
        rw [show fieldV T = .tuple #[.agg #[.string (mkB f.name), .string (mkB f.body)], .bool true] by rw [fieldV, hf]] at FS
        have FSH := Lib.hid FS
        clear FS HP2 HP hf
        go_wp2_with (first | (go_at_call 24; refine JO.out.mono ?_; rintro e w5 ⟨rfl, hB5⟩) | (go_at_call 23; refine (FSH.out _ (HML5.out _ hB5)).mono ?_; rintro e w6 ⟨rfl, hB6⟩; have hB7 := hB5.trans (hB6.mono hB5.size); have hs7 := hB7.size; clear hB5 hB6) | (at_builtin; refine wpList_append_own _ rfl _ _ 25 rfl w4.heap.size 30 j0 (.agg #[.string ⟨#[]⟩, .string ⟨#[]⟩]) 2 32 Tryd.underlying25 hj hy0 hy1 hy2 rfl (by decide) _ _ _ rfl (row_lat hown ((hB7.alloc hs7 _).alloc (by simp; omega) _)) ⟨w6.heap.size + 1, 0, none⟩ 1 1 [.string (mkB f.name), .string (mkB f.body)] rfl rfl (cell_two_new _ _ _ _ _ (by simp)) (by simp [Value.oneCell']) (by unfold maxLen; omega) (by omega) (by simp; omega) ?_; intro v' w8 hown' hgrow _))
        have hB8 : Below w4.heap.size w4 w8 := ((HBA.out.trans (hB7.mono hsA)).alloc (by omega) _ |>.alloc (by simp; omega) _).grown hgrow (by simp; omega) (fun k e => (hown.lt k e).1)
        have HROW : Hid (w8.ownsRow w4.heap.size 30 2 v' (out ++ [f]).length (flCells (out ++ [f]))) := Lib.hid (by
          rw [flCells_append]
          simpa [flCells] using hown')
        have HB8 := Lib.hid hB8
        clear hB7 hown hown' hgrow hB8
        go_wp2_with fail
        go_roundw
        case rel => exact ⟨k + 1, out ++ [f], by omega, by go_num, HN, by simp; omega, HROW.out, HB8⟩
        case measure => simp [intOf]; omega
    · obtain rfl : k = G.length := by omega
      have g2 : decide ((G.length : Int) < (G.length : Int)) = false := by simp
      have HN : Hid (out = R) := Lib.hid (by have := HP.out; rw [List.drop_length] at this; simpa using this)
      clear HP
      go_wp2_with fail
      go_ret
      refine ⟨_, rfl, ?_, HB4.out.trans (HBA.out.mono HB4.out.size)⟩
      rw [← HN.out]
      exact row_baseL hown HB4.out.size
end Go.Proofs.YtfgfbdfijpecfaaDoor
