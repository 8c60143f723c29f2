/-
  The first field of a name: impl's BodyOf.
-/
import Derived.Test.YtfgfbdfijpecfaaBodI
namespace Go.Proofs.Ytfgfbdfijpecfaa
set_option linter.unusedVariables false
open Go.RowKit Go.Shelf Go.Maps

/-- What the map tells of a name. -/
theorem mapOf_rev (K : List UInt8) (z : DataW Unit) : ∀ r : List Sm,
    Maps.IsMap (mapOf r.reverse) ∧ Maps.has (mapOf r.reverse) (.string K) = (r.find? (fun x => upS x.1.1.name == K)).isSome ∧
    (mapOf r.reverse).atKey (.string K) z = match r.find? (fun x => upS x.1.1.name == K) with | some x => .lit (.string x.1.1.body) | none => z
  | [] => ⟨⟨[], rfl⟩, rfl, rfl⟩
  | x :: r => by
    obtain ⟨h1, h2, h3⟩ := mapOf_rev K z r
    rw [List.reverse_cons, mapOf_snoc]
    refine ⟨h1.put _ _, ?_⟩
    cases hk : upS x.1.1.name == K with
    | true =>
      obtain rfl := beq_iff_eq.1 hk
      rw [List.find?_cons_of_pos (by simp)]
      exact ⟨Maps.has_put_same h1 (by first | exact rfl | simp [WideAt.IsKeyLit]) _, Maps.atKey_put_same h1 (by first | exact rfl | simp [WideAt.IsKeyLit]) _ _⟩
    | false =>
      have hne : (Lit.string K) ≠ .string (upS x.1.1.name) := fun e => by
        injection e with e
        rw [e] at hk
        simp at hk
      rw [List.find?_cons_of_neg (by rw [hk]; simp), Maps.has_put_other hne, Maps.atKey_put_other hne]
      exact ⟨h2, h3⟩
theorem bodyOf_find (name : List UInt8) : ∀ l : List Fl, bodyOf name l = (l.find? (fun f => upS f.name == upS name)).map (·.body)
  | [] => rfl
  | f :: r => by
    rw [bodyOf]
    unfold sameB
    cases h : upS f.name == upS name with
    | true => rw [List.find?_cons_of_pos (by exact h)]; rfl
    | false => rw [List.find?_cons_of_neg (by rw [h]; simp), if_neg (by simp), bodyOf_find name r]
theorem find_val (P : Fl → Bool) : ∀ r : List Sm, (r.find? (fun x => P x.1.1)).map (·.1.1) = (r.map (·.1.1)).find? P
  | [] => rfl
  | x :: r => by
    rw [List.map_cons]
    cases h : P x.1.1 with
    | true => rw [List.find?_cons_of_pos (by exact h), List.find?_cons_of_pos h]; rfl
    | false => rw [List.find?_cons_of_neg (by rw [h]; simp), List.find?_cons_of_neg (by rw [h]; simp), find_val P r]
theorem full_rev {l : List Fl} {full : List Sm} (h : full.map (·.1) = backL l l.length) : full.reverse.map (·.1.1) = l := by
  have h1 : full.reverse.map (·.1) = l.zipIdx := by
    rw [List.map_reverse, h]
    unfold backL
    rw [List.reverse_reverse, List.take_of_length_le (by simp)]
  have h2 : full.reverse.map (·.1.1) = (full.reverse.map (·.1)).map (·.1) := by rw [List.map_map]; rfl
  rw [h2, h1]
  simp
/-- The look-up tells the first field of the name. -/
theorem mapOf_tells {l : List Fl} {full : List Sm} (h : full.map (·.1) = backL l l.length) (name : List UInt8) :
    Maps.has (mapOf full) (.string (upS name)) = (bodyOf name l).isSome ∧ (mapOf full).atKey (.string (upS name)) (.lit (.string [])) = .lit (.string ((bodyOf name l).getD [])) := by
  have h1 := mapOf_rev (upS name) (.lit (.string [])) full.reverse
  rw [List.reverse_reverse] at h1
  have h2 := find_val (fun f => upS f.name == upS name) full.reverse
  rw [full_rev h] at h2
  rw [bodyOf_find, ← h2]
  obtain ⟨_, h3, h4⟩ := h1
  rw [h3, h4]
  cases full.reverse.find? (fun x => upS x.1.1.name == upS name) with
  | none => exact ⟨rfl, rfl⟩
  | some x => exact ⟨rfl, rfl⟩

theorem full_exists {l : List Fl} (h : ∀ f ∈ l, f.name.length ≤ 8388608 ∧ f.body.length ≤ 8388608) : ∃ full : List Sm, full.map (·.1) = backL l l.length := by
  refine ⟨(backL l l.length).attachWith (fun x => x.1.name.length ≤ 8388608 ∧ x.1.body.length ≤ 8388608) (fun x hx => ?_), ?_⟩
  · refine h _ ?_
    unfold backL at hx
    rw [List.take_of_length_le (by simp), List.mem_reverse] at hx
    exact List.fst_mem_of_mem_zipIdx hx
  · exact List.attachWith_map_subtype_val _

theorem zeroStr (w : World) : (zeroValue 9).run Try.prog w = .ok (.string ⟨#[]⟩) w := by kernel_rfl

set_option maxRecDepth 100000 in
set_option maxHeartbeats 1000000 in
theorem implBody_is : BodyIs := by
  intro v l s w hv hs hput hl
  obtain ⟨full, hfull⟩ := full_exists (l := l) (fun f hf => by have := putL_mem hf; omega)
  obtain ⟨p, cap, rfl⟩ := hv.slice
  have HB := Lib.hid (callsIn_wide.1 (bodies_in p cap l full hl hfull w hv))
  have UP := Lib.hid (fun W => implUpper_any s W (by unfold maxLen; omega))
  obtain ⟨ht1, ht2⟩ := mapOf_tells hfull s.data.toList
  have hs2 : s.data.toList.length = s.size := by simp
  have hkey := Go.WideMaps.keyOf_string_mk (P := Try.prog) Try.underlying9 (s := mkB (upS s.data.toList)) (by rw [mkB_size]; unfold upS maxLen; rw [List.length_map]; omega)
  rw [mkB_list] at hkey
  change Hid (∀ W, Calls Try.prog _ _ W fun e w' => e = .returned (.string (mkB (upS s.data.toList))) ∧ _) at UP
  generalize bodyOf s.data.toList l = R at ht1 ht2 ⊢
  generalize upS s.data.toList = K at ht1 ht2 hkey UP
  generalize mkB K = KB at hkey UP
  have T1 := Lib.hid ht1
  have T2 := Lib.hid ht2
  clear ht1 ht2 hv hput
  go_enter Try.func15, Try.ntmps15
  go_wp2_with fail
  refine HB.out.mono ?_
  rintro e w1 ⟨rfl, hown, hB1⟩
  go_wp2_with fail
  refine (UP.out _).mono ?_
  rintro e w2 ⟨rfl, hB2⟩
  have hown2 := own_below hown hB2
  have HBB := Lib.hid (hB1.trans (hB2.mono hB1.size))
  clear hown hB1 hB2
  go_wp2_with (first | (at_lookup; refine wpList_lookup_own_ok _ rfl _ _ 50 rfl 9 9 (string_keyed Try.underlying9) Try.underlying50 (plainElem Try.prog 9) (zeroStr _) (.lit (.string [])) [] (plainElem_string Try.underlying9 (by decide)) w.heap.size full.length (mapOf full) rfl hown2 _ _ rfl hkey ?_; intro v ps hv; rw [T1.out]; rw [T2.out] at hv; obtain ⟨c, rfl, hc, _⟩ := plainElem_string_inv Try.underlying9 hv))
  have hcc : c.data.toList = R.getD [] := by
    have h1 := congrArg Prod.fst hc
    injection h1 with h1
    injection h1 with h1
    exact h1.symm
  have hcm : c = mkB (R.getD []) := by
    apply ByteArray.ext
    apply Array.ext'
    exact hcc
  subst hcm
  go_ret2
  refine ⟨?_, HBB.out⟩
  cases R with
  | none => rfl
  | some x => rfl
end Go.Proofs.Ytfgfbdfijpecfaa
