/-
  Names and how they are written: plain lists of bytes.
-/
import Derived.Test.YtdgdflbhjbgmdaaDoorUtB
import Derived.Test.YtdgdflbhjbgmdaaDoorBsD
import Derived.Lib.IndexLaws
namespace Go.Proofs.YtdgdflbhjbgmdaaDoor
set_option linter.unusedVariables false
open Go.RowKit

/-- A number below 65536 in two bytes. -/
def unit2 (n : Nat) : List UInt8 := [UInt8.ofNat (n / 256), UInt8.ofNat n]
def halvesL (r : Nat) : List UInt8 := if r < 65536 then unit2 r else unit2 (55296 + (r - 65536) / 1024) ++ unit2 (56320 + (r - 65536) % 1024)
def halvesOf (ps : List Nat) : List UInt8 := ps.flatMap halvesL
def swapB (a b x : UInt8) : UInt8 := if x = a then b else x
def swapL (a b : UInt8) (l : List UInt8) : List UInt8 := l.map (swapB a b)
/-- What is written of halves that wait. -/
def flushL (h : List UInt8) : List UInt8 := if h = [] then [] else [38] ++ swapL 47 44 (b64 h) ++ [45]
/-- What a plain sign is written as. -/
def plainL (r : Nat) : List UInt8 := [UInt8.ofNat r] ++ (if r = 38 then [45] else [])
/-- What is written of the signs cs where the halves h wait. -/
def putNm : List Nat → List UInt8 → List UInt8
  | [], h => flushL h
  | r :: rs, h => if 32 ≤ r ∧ r ≤ 126 then flushL h ++ plainL r ++ putNm rs [] else putNm rs (h ++ halvesL r)

theorem halvesL_len (r : Nat) : 2 ≤ (halvesL r).length ∧ (halvesL r).length ≤ 4 := by
  unfold halvesL
  split <;> simp [unit2]
theorem swapL_len (a b : UInt8) (l : List UInt8) : (swapL a b l).length = l.length := by simp [swapL]
theorem flushL_len (h : List UInt8) : (flushL h).length ≤ 2 * h.length + 3 ∧ (h = [] → flushL h = []) := by
  unfold flushL
  refine ⟨?_, fun e => by rw [if_pos e]⟩
  split
  · simp
  · simp only [List.length_append, swapL_len, b64_len, List.length_singleton]
    omega

/-! signs -/
theorem sg_ne (k : Nat) (h : k < 64) : sg k ≠ 45 ∧ sg k ≠ 44 ∧ sg k ≠ 38 ∧ 32 ≤ (sg k).toNat ∧ (sg k).toNat ≤ 126 := by
  have e : ∀ k : Fin 64, sg k.val ≠ 45 ∧ sg k.val ≠ 44 ∧ sg k.val ≠ 38 ∧ 32 ≤ (sg k.val).toNat ∧ (sg k.val).toNat ≤ 126 := by decide
  exact e ⟨k, h⟩
theorem b64_mem (y : List UInt8) (b : UInt8) (h : b ∈ b64 y) : IsSign b := by
  obtain ⟨j, hj⟩ := List.mem_iff_getElem?.1 h
  exact b64_signs y j b hj
theorem b64_ne (y : List UInt8) (h : y ≠ []) : b64 y ≠ [] := by
  intro e
  have h1 := congrArg List.length e
  rw [b64_len] at h1
  have h2 := List.length_pos_iff.2 h
  simp at h1
  omega
theorem swap_mem (a b x : UInt8) (l : List UInt8) (h : x ∈ swapL a b l) : x = b ∨ (x ∈ l ∧ x ≠ a) := by
  unfold swapL at h
  obtain ⟨y, h1, rfl⟩ := List.mem_map.1 h
  unfold swapB
  split
  · exact .inl rfl
  · rename_i hn
    exact .inr ⟨h1, hn⟩
/-- The signs with a comma: no hyphen among them. -/
theorem word_low (y : List UInt8) (x : UInt8) (h : x ∈ swapL 47 44 (b64 y)) : x ≠ 45 ∧ 32 ≤ x.toNat ∧ x.toNat ≤ 126 := by
  rcases swap_mem _ _ _ _ h with rfl | ⟨h1, h2⟩
  · decide
  · obtain ⟨k, hk, rfl⟩ := b64_mem y x h1
    have := sg_ne k hk
    exact ⟨this.1, this.2.2.2.1, this.2.2.2.2⟩
theorem swap_back (l : List UInt8) (h : ∀ x ∈ l, x ≠ 44) : swapL 44 47 (swapL 47 44 l) = l := by
  induction l with
  | nil => rfl
  | cons x l ih =>
    have hx := h x (List.mem_cons_self ..)
    show swapB 44 47 (swapB 47 44 x) :: swapL 44 47 (swapL 47 44 l) = x :: l
    rw [ih (fun y hy => h y (List.mem_cons_of_mem _ hy))]
    congr 1
    unfold swapB
    by_cases e : x = 47
    · rw [if_pos e, if_pos rfl, e]
    · rw [if_neg e, if_neg hx]
theorem word_back (y : List UInt8) : swapL 44 47 (swapL 47 44 (b64 y)) = b64 y := swap_back _ fun x hx => by
  obtain ⟨k, hk, rfl⟩ := b64_mem y x hx
  exact (sg_ne k hk).2.1

/-! what is read -/
/-- The first place of b in l. -/
def idx (b : UInt8) : List UInt8 → Option Nat
  | [] => none
  | x :: l => if x = b then some 0 else (idx b l).map (· + 1)
theorem idx_app (b : UInt8) (l r : List UInt8) (h : ∀ x ∈ l, x ≠ b) : idx b (l ++ b :: r) = some l.length := by
  induction l with
  | nil => simp [idx]
  | cons x l ih =>
    rw [List.cons_append, idx, if_neg (h x (List.mem_cons_self ..)), ih (fun y hy => h y (List.mem_cons_of_mem _ hy))]
    rfl
theorem idx_none (b : UInt8) (l : List UInt8) : idx b l = none ↔ ∀ x ∈ l, x ≠ b := by
  induction l with
  | nil => simp [idx]
  | cons x l ih =>
    rw [idx]
    by_cases e : x = b
    · rw [if_pos e]; simp [e]
    · rw [if_neg e, Option.map_eq_none_iff, ih]
      simp [e]
theorem idx_some (b : UInt8) : ∀ (l : List UInt8) (n : Nat), idx b l = some n → n < l.length ∧ l = l.take n ++ b :: l.drop (n + 1) ∧ ∀ x ∈ l.take n, x ≠ b := by
  intro l
  induction l with
  | nil => intro n h; simp [idx] at h
  | cons x l ih =>
    intro n h
    rw [idx] at h
    by_cases e : x = b
    · rw [if_pos e] at h
      obtain rfl := Option.some.inj h
      simp [e]
    · rw [if_neg e] at h
      obtain ⟨m, hm, rfl⟩ := Option.map_eq_some_iff.1 h
      obtain ⟨h1, h2, h3⟩ := ih m hm
      refine ⟨by simp; omega, ?_, ?_⟩
      · rw [List.take_succ_cons, List.drop_succ_cons, List.cons_append, ← h2]
      · intro y hy
        rw [List.take_succ_cons] at hy
        rcases List.mem_cons.1 hy with rfl | hy
        · exact e
        · exact h3 y hy
/-- The library's index of one byte. -/
theorem idx_byte (b : UInt8) (l : List UInt8) : Lib.indexByte l b = match idx b l with | none => -1 | some n => (n : Int) := by
  have hge := Lib.indexByte_ge l b
  cases h : idx b l with
  | none =>
    by_cases hm : Lib.indexByte l b = -1
    · exact hm
    · exfalso
      obtain ⟨o, ho⟩ : ∃ o : Nat, Lib.indexByte l b = o := ⟨(Lib.indexByte l b).toNat, by omega⟩
      obtain ⟨h1, _⟩ := Lib.indexByte_some ho
      exact (idx_none b l).1 h b (List.mem_of_getElem? h1) rfl
  | some n =>
    obtain ⟨h1, h2, h3⟩ := idx_some b l n h
    have hat : l[n]? = some b := by
      conv => lhs; rw [h2]
      rw [List.getElem?_append_right (by rw [List.length_take]; omega), List.length_take, show n - min n l.length = 0 by omega]
      rfl
    by_cases hm : Lib.indexByte l b = -1
    · exact absurd hat (Lib.indexByte_none hm n)
    · obtain ⟨o, ho⟩ : ∃ o : Nat, Lib.indexByte l b = o := ⟨(Lib.indexByte l b).toNat, by omega⟩
      obtain ⟨g1, g2⟩ := Lib.indexByte_some ho
      rw [ho]
      show (o : Int) = (n : Int)
      rcases Nat.lt_trichotomy o n with hlt | heq | hgt
      · exfalso
        refine h3 b (List.mem_iff_getElem?.2 ⟨o, ?_⟩) rfl
        rw [List.getElem?_take, if_pos hlt, g1]
      · rw [heq]
      · exact absurd hat (g2 n hgt)

/-- A text with stretches from an ampersand to a hyphen, each read by p. -/
def getGo (p : List UInt8 → Option (List UInt8)) : Nat → List UInt8 → Option (List UInt8)
  | 0, _ => some []
  | _ + 1, [] => some []
  | n + 1, x :: t => if x ≠ 38 then (getGo p n t).map (x :: ·) else match idx 45 t with
    | none => none
    | some k => (p (t.take k)).bind fun q => (getGo p n (t.drop (k + 1))).map (q ++ ·)
def getG (p : List UInt8 → Option (List UInt8)) (l : List UInt8) : Option (List UInt8) := getGo p l.length l
theorem getGo_fuel (p : List UInt8 → Option (List UInt8)) : ∀ (n m : Nat) (l : List UInt8), l.length ≤ n → l.length ≤ m → getGo p n l = getGo p m l := by
  intro n
  induction n with
  | zero =>
    intro m l h1 _
    obtain rfl := List.eq_nil_of_length_eq_zero (Nat.le_zero.1 h1)
    cases m <;> rfl
  | succ n ih =>
    intro m l h1 h2
    cases l with
    | nil => cases m <;> rfl
    | cons x t =>
      simp only [List.length_cons] at h1 h2
      obtain ⟨m, rfl⟩ : ∃ k, m = k + 1 := ⟨m - 1, by omega⟩
      rw [getGo, getGo, ih m t (by omega) (by omega)]
      split
      · rfl
      · cases hk : idx 45 t with
        | none => rfl
        | some k =>
          simp only
          rw [ih m (t.drop (k + 1)) (by rw [List.length_drop]; omega) (by rw [List.length_drop]; omega)]
theorem getG_nil (p : List UInt8 → Option (List UInt8)) : getG p [] = some [] := rfl
theorem getG_cons (p : List UInt8 → Option (List UInt8)) (x : UInt8) (t : List UInt8) (h : x ≠ 38) : getG p (x :: t) = (getG p t).map (x :: ·) := by
  unfold getG
  rw [List.length_cons, getGo, if_pos h]
theorem getG_amp (p : List UInt8 → Option (List UInt8)) (t : List UInt8) : getG p (38 :: t) = match idx 45 t with
    | none => none
    | some k => (p (t.take k)).bind fun q => (getG p (t.drop (k + 1))).map (q ++ ·) := by
  unfold getG
  rw [List.length_cons, getGo, if_neg (by simp)]
  cases hk : idx 45 t with
  | none => rfl
  | some k =>
    simp only
    rw [getGo_fuel p t.length (t.drop (k + 1)).length _ (by rw [List.length_drop]; omega) (Nat.le_refl _)]
theorem getG_app (p : List UInt8 → Option (List UInt8)) (l t : List UInt8) (h : ∀ x ∈ l, x ≠ 38) : getG p (l ++ t) = (getG p t).map (l ++ ·) := by
  induction l with
  | nil => simp
  | cons x l ih =>
    rw [List.cons_append, getG_cons p x _ (h x (List.mem_cons_self ..)), ih (fun y hy => h y (List.mem_cons_of_mem _ hy)), Option.map_map]
    rfl
/-- Whatever reads a stretch as it is written reads a name as it is written. -/
theorem getG_put (p : List UInt8 → Option (List UInt8)) (h0 : p [] = some [38]) (hp : ∀ ps, ps ≠ [] → AllScalar ps → p (swapL 47 44 (b64 (halvesOf ps))) = some (bytesOf ps)) :
    ∀ (cs ps : List Nat), AllScalar cs → AllScalar ps → getG p (putNm cs (halvesOf ps)) = some (bytesOf ps ++ bytesOf cs) := by
  have hflush : ∀ (ps : List Nat) (rest : List UInt8), AllScalar ps → getG p (flushL (halvesOf ps) ++ rest) = (getG p rest).map (bytesOf ps ++ ·) := by
    intro ps rest hs
    by_cases e : ps = []
    · subst e
      show getG p ([] ++ rest) = (getG p rest).map ([] ++ ·)
      simp
    · have hne : halvesOf ps ≠ [] := by
        cases ps with
        | nil => exact absurd rfl e
        | cons c ps =>
          intro h
          have := (halvesL_len c).1
          have h2 : halvesL c ++ halvesOf ps = [] := h
          rw [(List.append_eq_nil_iff.1 h2).1] at this
          simp at this
      unfold flushL
      rw [if_neg hne, List.append_assoc, List.append_assoc, List.singleton_append, getG_amp, List.singleton_append, idx_app 45 _ rest (fun x hx => (word_low _ x hx).1)]
      simp only
      rw [List.take_left' rfl, hp ps e hs, show List.drop ((swapL 47 44 (b64 (halvesOf ps))).length + 1) (swapL 47 44 (b64 (halvesOf ps)) ++ 45 :: rest) = rest by
        rw [← List.drop_drop, List.drop_left' rfl]; rfl]
      rfl
  intro cs
  induction cs with
  | nil =>
    intro ps _ hs
    have := hflush ps [] hs
    rw [List.append_nil, getG_nil] at this
    show getG p (flushL (halvesOf ps)) = _
    rw [this]
    rfl
  | cons r rs ih =>
    intro ps hc hs
    have hr := hc r (List.mem_cons_self ..)
    have hrs : AllScalar rs := fun x hx => hc x (List.mem_cons_of_mem _ hx)
    rw [putNm]
    by_cases hpl : 32 ≤ r ∧ r ≤ 126
    · rw [if_pos hpl, List.append_assoc, hflush ps _ hs]
      have hi := ih [] hrs (fun c hc => nomatch hc)
      have hput : putL r = [UInt8.ofNat r] := put_one r (by omega)
      have e : getG p (plainL r ++ putNm rs []) = some (putL r ++ bytesOf rs) := by
        unfold plainL
        by_cases h38 : r = 38
        · subst h38
          rw [if_pos rfl, hput]
          show getG p (38 :: (45 :: putNm rs [])) = _
          rw [getG_amp]
          simp only [idx, if_pos, List.take_zero, h0, Option.bind_some, Nat.zero_add, List.drop_succ_cons, List.drop_zero]
          have hi2 : getG p (putNm rs []) = some (bytesOf rs) := hi
          rw [hi2]
          rfl
        · rw [if_neg h38, hput, List.append_nil, List.singleton_append, getG_cons]
          · have hi2 : getG p (putNm rs []) = some (bytesOf rs) := hi
            rw [hi2]
            rfl
          · intro e
            have := congrArg UInt8.toNat e
            rw [UInt8.toNat_ofNat', Nat.mod_eq_of_lt (by omega)] at this
            exact h38 this
      rw [e, bytesOf_cons]
      rfl
    · rw [if_neg hpl]
      have e : halvesOf ps ++ halvesL r = halvesOf (ps ++ [r]) := by simp [halvesOf]
      rw [e, ih (ps ++ [r]) hrs (fun c hc => by
        rcases List.mem_append.1 hc with h | h
        · exact hs c h
        · rw [List.mem_singleton.1 h]; exact hr), bytesOf_app, bytesOf_cons, List.append_assoc]
      simp [bytesOf]
end Go.Proofs.YtdgdflbhjbgmdaaDoor
