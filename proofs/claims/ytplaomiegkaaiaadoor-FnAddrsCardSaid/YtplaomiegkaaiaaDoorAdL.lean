/-
  Addresses: plain (ReadAddrs, AddrText).
-/
import Derived.Test.YtplaomiegkaaiaaDoorAdP
import Derived.Test.YtplaomiegkaaiaaDoorPsP
namespace Go.Proofs.YtplaomiegkaaiaaDoor
set_option linter.unusedVariables false
open Go.RowKit

/-- The last place of a byte; -1 where there is none. -/
def lastI (b : UInt8) : List UInt8 → Int
  | [] => -1
  | x :: r => if 0 ≤ lastI b r then lastI b r + 1 else if x = b then 0 else -1
theorem lastI_spec (b : UInt8) : ∀ (l : List UInt8), (lastI b l = -1 ∧ ∀ j : Nat, l[j]? ≠ some b) ∨ ∃ i : Nat, lastI b l = i ∧ i < l.length ∧ l[i]? = some b ∧ ∀ j : Nat, i < j → l[j]? ≠ some b
  | [] => .inl ⟨rfl, fun j => by simp⟩
  | x :: r => by
    rcases lastI_spec b r with ⟨h1, h2⟩ | ⟨i, h1, h2, h3, h4⟩
    · by_cases hx : x = b
      · refine .inr ⟨0, by simp [lastI, h1, hx], by simp, by simp [hx], fun j hj => ?_⟩
        obtain ⟨k, rfl⟩ : ∃ k, j = k + 1 := ⟨j - 1, by omega⟩
        rw [List.getElem?_cons_succ]
        exact h2 k
      · refine .inl ⟨by simp [lastI, h1, hx], fun j => ?_⟩
        cases j with
        | zero => simpa using hx
        | succ k => rw [List.getElem?_cons_succ]; exact h2 k
    · refine .inr ⟨i + 1, by rw [lastI, if_pos (by omega), h1]; omega, by simp; omega, by rw [List.getElem?_cons_succ]; exact h3, fun j hj => ?_⟩
      obtain ⟨k, rfl⟩ : ∃ k, j = k + 1 := ⟨j - 1, by omega⟩
      rw [List.getElem?_cons_succ]
      exact h4 k (by omega)
theorem lastI_at (b : UInt8) (l : List UInt8) (i : Nat) (h1 : l[i]? = some b) (h2 : ∀ j : Nat, i < j → l[j]? ≠ some b) : lastI b l = i := by
  rcases lastI_spec b l with ⟨_, h4⟩ | ⟨k, h3, _, h5, h6⟩
  · exact absurd h1 (h4 i)
  · rw [h3]
    rcases Nat.lt_trichotomy i k with h | h | h
    · exact absurd h5 (h2 k h)
    · rw [h]
    · exact absurd h1 (h6 i h)
theorem lastI_none (b : UInt8) (l : List UInt8) (h : ∀ j : Nat, l[j]? ≠ some b) : lastI b l = -1 := by
  rcases lastI_spec b l with ⟨h3, _⟩ | ⟨k, _, _, h5, _⟩
  · exact h3
  · exact absurd h5 (h k)
theorem lastI_bounds (b : UInt8) (l : List UInt8) : -1 ≤ lastI b l ∧ lastI b l < l.length := by
  rcases lastI_spec b l with ⟨h, _⟩ | ⟨i, h, h2, _⟩
  · omega
  · omega

theorem lastI_take (b : UInt8) (l : List UInt8) (k : Nat) (h : k < l.length) : lastI b (l.take (k + 1)) = if l[k] = b then (k : Int) else lastI b (l.take k) := by
  have hat : ∀ j, (l.take (k + 1))[j]? = if j < k + 1 then l[j]? else none := fun j => List.getElem?_take ..
  have hat0 : ∀ j, (l.take k)[j]? = if j < k then l[j]? else none := fun j => List.getElem?_take ..
  split
  · rename_i hx
    refine lastI_at b _ k (by rw [hat, if_pos (by omega), List.getElem?_eq_getElem h, hx]) (fun j hj => ?_)
    rw [hat, if_neg (by omega)]
    exact fun h => by cases h
  · rename_i hx
    rcases lastI_spec b (l.take k) with ⟨h1, h2⟩ | ⟨i, h1, h2, h3, h4⟩
    · rw [h1]
      refine lastI_none b _ (fun j hj => ?_)
      rw [hat] at hj
      split at hj
      · by_cases hjk : j = k
        · rw [hjk, List.getElem?_eq_getElem h] at hj
          exact hx (Option.some.inj hj)
        · have := h2 j
          rw [hat0, if_pos (by omega)] at this
          exact this hj
      · cases hj
    · rw [h1]
      have hik : i < k := by
        rw [List.length_take] at h2
        omega
      rw [hat0, if_pos hik] at h3
      refine lastI_at b _ i (by rw [hat, if_pos (by omega)]; exact h3) (fun j hj hj2 => ?_)
      rw [hat] at hj2
      split at hj2
      · by_cases hjk : j = k
        · rw [hjk, List.getElem?_eq_getElem h] at hj2
          exact hx (Option.some.inj hj2)
        · have := h4 j hj
          rw [hat0, if_pos (by omega)] at this
          exact this hj2
      · cases hj2

structure Ad where
  name : List UInt8
  box : List UInt8
  host : List UInt8
/-- A byte of an address. -/
def specB (b : UInt8) : Bool := nameB b && (!(b == 60) && !(b == 62))
/-- The name and the address of a part. -/
def twoOf (p : List UInt8) : List UInt8 × List UInt8 :=
  if 0 ≤ lastI 60 p ∧ p.getD (p.length - 1) 0 = 62 then (unqL (p.take (lastI 60 p).toNat), (p.drop ((lastI 60 p).toNat + 1)).take (p.length - 1 - ((lastI 60 p).toNat + 1))) else ([], p)
def boxOf (nm m : List UInt8) : Option Ad :=
  if m.all specB = true ∧ 0 < lastI 64 m ∧ lastI 64 m < (m.length : Int) - 1 then some ⟨nm, m.take (lastI 64 m).toNat, m.drop ((lastI 64 m).toNat + 1)⟩ else none
def addrOf (p : List UInt8) : Option Ad := boxOf (twoOf p).1 (twoOf p).2
def addrsL (s : List UInt8) : List Ad := (comL s).filterMap addrOf

def adCells (l : List Ad) : List Value := l.flatMap fun x => [.string (mkB x.name), .string (mkB x.box), .string (mkB x.host)]
theorem adCells_len (l : List Ad) : (adCells l).length = l.length * 3 := by
  induction l with
  | nil => rfl
  | cons a r ih => simp [adCells] at ih ⊢; omega
theorem adCells_append (a b : List Ad) : adCells (a ++ b) = adCells a ++ adCells b := by simp [adCells]
theorem adCells_one (l : List Ad) : ∀ u ∈ adCells l, u.oneCell' = true := by
  intro u hu
  obtain ⟨x, hx, hy⟩ := List.mem_flatMap.1 hu
  simp only [List.mem_cons, List.not_mem_nil, or_false] at hy
  rcases hy with rfl | rfl | rfl <;> rfl
theorem adCells_at : ∀ (l : List Ad) (k : Nat) (h : k < l.length), (adCells l)[k * 3]? = some (.string (mkB l[k].name)) ∧ (adCells l)[k * 3 + 1]? = some (.string (mkB l[k].box)) ∧ (adCells l)[k * 3 + 2]? = some (.string (mkB l[k].host))
  | [], k, h => absurd h (by simp)
  | a :: r, 0, h => ⟨rfl, rfl, rfl⟩
  | a :: r, k + 1, h => by
    have := adCells_at r k (by simpa using h)
    rw [show (k + 1) * 3 = k * 3 + 1 + 1 + 1 by omega, show adCells (a :: r) = .string (mkB a.name) :: .string (mkB a.box) :: .string (mkB a.host) :: adCells r from rfl]
    simpa using this

theorem twoOf_len (p : List UInt8) : (twoOf p).1.length + (twoOf p).2.length ≤ p.length := by
  unfold twoOf
  have hb := lastI_bounds 60 p
  split
  · have := unqL_len (p.take (lastI 60 p).toNat)
    simp at this ⊢
    omega
  · simp
/-- How long an address is. -/
def adSize (a : Ad) : Nat := a.name.length + a.box.length + a.host.length
theorem boxOf_some {nm m : List UInt8} {a : Ad} (h : boxOf nm m = some a) : a.name = nm ∧ a.box ≠ [] ∧ a.host ≠ [] ∧ hasL 64 a.host = false ∧ a.box.length + a.host.length ≤ m.length := by
  unfold boxOf at h
  split at h
  · rename_i h0
    obtain ⟨_, h1, h2⟩ := h0
    have e := Option.some.inj h
    subst e
    have hs := lastI_spec 64 m
    refine ⟨rfl, ?_, ?_, ?_, ?_⟩
    · intro h3
      have := congrArg List.length h3
      rw [List.length_take, List.length_nil] at this
      omega
    · intro h3
      have := congrArg List.length h3
      rw [List.length_drop, List.length_nil] at this
      omega
    · rcases hs with ⟨h3, _⟩ | ⟨i, h3, h4, h5, h6⟩
      · omega
      · rw [h3]
        unfold hasL
        rw [List.any_eq_false]
        intro x hx
        obtain ⟨j, hj, rfl⟩ := List.getElem_of_mem hx
        have := h6 (i + 1 + j) (by omega)
        rw [beq_iff_eq]
        intro h7
        apply this
        rw [← h7]
        simp
    · simp
      omega
  · cases h
theorem addrOf_some {p : List UInt8} {a : Ad} (h : addrOf p = some a) : a.box ≠ [] ∧ a.host ≠ [] ∧ hasL 64 a.host = false ∧ adSize a ≤ p.length := by
  have h1 := boxOf_some h
  have h2 := twoOf_len p
  refine ⟨h1.2.1, h1.2.2.1, h1.2.2.2.1, ?_⟩
  unfold adSize
  rw [h1.1]
  omega
theorem filterMap_len (l : List (List UInt8)) : (l.filterMap addrOf).length ≤ l.length := List.length_filterMap_le _ _
theorem addrs_size : ∀ (l : List (List UInt8)), ((l.filterMap addrOf).map adSize).foldr (· + ·) 0 ≤ total l
  | [] => by simp [total]
  | p :: r => by
    have := addrs_size r
    rw [total_cons, List.filterMap_cons]
    cases h : addrOf p with
    | none => simp only; omega
    | some a =>
      have h2 := (addrOf_some h).2.2.2
      simp only [List.map_cons, List.foldr_cons]
      omega

/-- The bytes of 'Some One <some@one>'. -/
def someL : List UInt8 := [83, 111, 109, 101, 32, 79, 110, 101, 32, 60, 115, 111, 109, 101, 64, 111, 110, 101, 62]
def someAd : Ad := ⟨[83, 111, 109, 101, 32, 79, 110, 101], [115, 111, 109, 101], [111, 110, 101]⟩
theorem addrs_more (s : List UInt8) : addrsL (someL ++ [44, 32] ++ s) = someAd :: addrsL s := by
  unfold addrsL comL
  have e : comR false false [] (someL ++ [44, 32] ++ s) = someL :: comR false false [32] s := by
    simp [someL, comR, nextQ, nextE]
  have e2 : Lib.trimS someL [32, 9] = someL := by decide
  have e3 : addrOf someL = some someAd := by kernel_rfl
  rw [e, keepT_cons, e2, if_neg (by simp [someL]), keepT_blank, List.singleton_append, List.filterMap_cons, e3]

/-- What an address is told as. -/
def addrT (a : Ad) : List UInt8 := 40 :: nstr (!a.name.isEmpty) a.name ++ [32, 78, 73, 76, 32] ++ putStr a.box ++ [32] ++ putStr a.host ++ [41]
def addrTs (l : List Ad) : List UInt8 := if l = [] then nilL else 40 :: l.flatMap addrT ++ [41]
theorem addrTs_one (a : Ad) : (addrTs [a]).length = (addrT a).length + 2 := by
  unfold addrTs
  rw [if_neg (by simp)]
  simp
def adSum : List Ad → Nat
  | [] => 0
  | a :: r => ((addrTs [a]).length - 2) + adSum r
theorem adSum_append (a b : List Ad) : adSum (a ++ b) = adSum a + adSum b := by
  induction a with
  | nil => simp [adSum]
  | cons x r ih => rw [List.cons_append, adSum, adSum, ih]; omega
theorem adSum_flat : ∀ (l : List Ad), (l.flatMap addrT).length = adSum l
  | [] => rfl
  | a :: r => by
    rw [List.flatMap_cons, List.length_append, adSum_flat r, adSum, addrTs_one]
    omega
theorem addrTs_len (l : List Ad) (h : l ≠ []) : (addrTs l).length = 2 + adSum l := by
  unfold addrTs
  rw [if_neg h, List.length_append, List.length_cons, adSum_flat]
  simp
  omega
theorem putStr_len (l : List UInt8) (h : l.length ≤ 67108864) : (putStr l).length ≤ 2 * l.length + 30 := by
  unfold putStr
  split
  · simp
  · split
    · have := quote_len l
      omega
    · have := itoa_len l.length h
      simp
      omega
theorem nstr_len (b : Bool) (l : List UInt8) (h : l.length ≤ 67108864) : (nstr b l).length ≤ 2 * l.length + 30 := by
  unfold nstr
  split
  · exact putStr_len l h
  · simp [nilL]
theorem addrT_len (a : Ad) (h : adSize a ≤ 67108864) : (addrT a).length ≤ 2 * adSize a + 100 := by
  unfold adSize at h ⊢
  have h1 := nstr_len (!a.name.isEmpty) a.name (by omega)
  have h2 := putStr_len a.box (by omega)
  have h3 := putStr_len a.host (by omega)
  unfold addrT
  simp only [List.length_append, List.length_cons, List.length_nil]
  omega
def adSizes (l : List Ad) : Nat := (l.map adSize).foldr (· + ·) 0
theorem adSizes_cons (a : Ad) (l : List Ad) : adSizes (a :: l) = adSize a + adSizes l := rfl
theorem adSizes_append (a b : List Ad) : adSizes (a ++ b) = adSizes a + adSizes b := by
  induction a with
  | nil => simp [adSizes]
  | cons x r ih => rw [List.cons_append, adSizes_cons, adSizes_cons, ih]; omega
theorem adSizes_mem {l : List Ad} {x : Ad} (h : x ∈ l) : adSize x ≤ adSizes l := by
  induction l with
  | nil => cases h
  | cons a r ih =>
    rw [adSizes_cons]
    rcases List.mem_cons.1 h with rfl | h
    · omega
    · have := ih h; omega
theorem flat_len : ∀ (l : List Ad), adSizes l ≤ 67108864 → (l.flatMap addrT).length ≤ 2 * adSizes l + 100 * l.length
  | [], _ => by simp [adSizes]
  | a :: r, h => by
    rw [adSizes_cons] at h
    have h1 := addrT_len a (by omega)
    have h2 := flat_len r (by omega)
    rw [List.flatMap_cons, List.length_append, adSizes_cons, List.length_cons]
    omega
end Go.Proofs.YtplaomiegkaaiaaDoor
