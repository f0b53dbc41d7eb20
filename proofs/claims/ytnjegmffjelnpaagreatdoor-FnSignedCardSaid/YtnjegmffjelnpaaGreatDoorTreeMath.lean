/-
  Trees of digests, as plain functions: leaves, nodes, trees, paths, proofs, and the two ways of going up a path (from the top down, and bit by bit), which are one.
  Nothing of the program is named here.
-/
import Derived.Test.YtnjegmffjelnpaaGreatDoorBytesDigMathTurnIWholeR
namespace Go.Proofs.YtnjegmffjelnpaaGreatDoor
open Go.RowKit Go.Lib
set_option linter.unusedVariables false

def m0 : ByteArray := ⟨#[0]⟩
def m1 : ByteArray := ⟨#[1]⟩
def leafB (t : ByteArray) : ByteArray := digB (m0 ++ t)
def nodeB (l r : ByteArray) : ByteArray := digB (m1 ++ l ++ r)
def leafA (t : ByteArray) : ByteArray := if t.size ≤ 100 then leafB t else ByteArray.empty
def nodeA (l r : ByteArray) : ByteArray := if l.size = 32 ∧ r.size = 32 then nodeB l r else ByteArray.empty
theorem leafB_size (t : ByteArray) : (leafB t).size = 32 := digB_size _
theorem nodeB_size (l r : ByteArray) : (nodeB l r).size = 32 := digB_size _
theorem nodeA_of {l r : ByteArray} (h : l.size = 32) (h2 : r.size = 32) : nodeA l r = nodeB l r := if_pos ⟨h, h2⟩
theorem nodeA_left (r : ByteArray) : nodeA ByteArray.empty r = ByteArray.empty := if_neg (fun h => by have := h.1; simp at this)
theorem nodeA_right (l : ByteArray) : nodeA l ByteArray.empty = ByteArray.empty := if_neg (fun h => by have := h.2; simp at this)

/-- The greatest power of two below a number above 1. -/
def halfN (n : Nat) : Nat := 2 ^ Nat.log2 (n - 1)
theorem halfN_pos (n : Nat) : 1 ≤ halfN n := Nat.one_le_two_pow
theorem halfN_lt {n : Nat} (h : 2 ≤ n) : halfN n < n := by
  have := Nat.log2_self_le (n := n - 1) (by omega)
  unfold halfN; omega
theorem halfN_le {n : Nat} (h : 2 ≤ n) : n ≤ 2 * halfN n := by
  have h1 : n - 1 < 2 ^ (Nat.log2 (n - 1) + 1) := Nat.lt_log2_self
  rw [Nat.pow_succ] at h1
  unfold halfN; omega
theorem halfN_unique {n j : Nat} (h1 : 2 ^ j < n) (h2 : n ≤ 2 * 2 ^ j) : halfN n = 2 ^ j := by
  have hp : 1 ≤ 2 ^ j := Nat.one_le_two_pow
  have e : Nat.log2 (n - 1) = j := by
    have a := Nat.log2_self_le (n := n - 1) (by omega)
    have b : n - 1 < 2 ^ (Nat.log2 (n - 1) + 1) := Nat.lt_log2_self
    have c1 : 2 ^ j < 2 ^ (Nat.log2 (n - 1) + 1) := by omega
    have c2 : 2 ^ (Nat.log2 (n - 1)) < 2 ^ (j + 1) := by rw [Nat.pow_succ]; omega
    have d1 := (Nat.pow_lt_pow_iff_right (a := 2) (by omega)).1 c1
    have d2 := (Nat.pow_lt_pow_iff_right (a := 2) (by omega)).1 c2
    omega
  unfold halfN; rw [e]

def treeB (l : List ByteArray) : ByteArray :=
  if h : 2 ≤ l.length then nodeB (treeB (l.take (halfN l.length))) (treeB (l.drop (halfN l.length)))
  else match l with
    | [] => digB ByteArray.empty
    | x :: _ => leafB x
termination_by l.length
decreasing_by
  · have := halfN_lt h; simp; omega
  · have := halfN_pos l.length; simp; omega
theorem treeB_nil : treeB [] = digB ByteArray.empty := by rw [treeB]; simp
theorem treeB_one (x : ByteArray) : treeB [x] = leafB x := by rw [treeB]; simp
theorem treeB_two {l : List ByteArray} (h : 2 ≤ l.length) : treeB l = nodeB (treeB (l.take (halfN l.length))) (treeB (l.drop (halfN l.length))) := by
  rw [treeB]; simp [h]
theorem treeB_size (l : List ByteArray) : (treeB l).size = 32 := by
  match l with
  | [] => rw [treeB_nil, digB_size]
  | [x] => rw [treeB_one, leafB_size]
  | x :: y :: t => rw [treeB_two (by simp), nodeB_size]

def pathB (l : List ByteArray) (i : Nat) : List ByteArray :=
  if h : 2 ≤ l.length then
    if i < halfN l.length then pathB (l.take (halfN l.length)) i ++ [treeB (l.drop (halfN l.length))]
    else pathB (l.drop (halfN l.length)) (i - halfN l.length) ++ [treeB (l.take (halfN l.length))]
  else []
termination_by l.length
decreasing_by
  · have := halfN_lt h; simp; omega
  · have := halfN_pos l.length; simp; omega
theorem pathB_one {l : List ByteArray} (h : ¬ 2 ≤ l.length) (i : Nat) : pathB l i = [] := by rw [pathB]; simp [h]
theorem pathB_left {l : List ByteArray} (h : 2 ≤ l.length) {i : Nat} (hi : i < halfN l.length) : pathB l i = pathB (l.take (halfN l.length)) i ++ [treeB (l.drop (halfN l.length))] := by
  rw [pathB]; simp [h, hi]
theorem pathB_right {l : List ByteArray} (h : 2 ≤ l.length) {i : Nat} (hi : ¬ i < halfN l.length) : pathB l i = pathB (l.drop (halfN l.length)) (i - halfN l.length) ++ [treeB (l.take (halfN l.length))] := by
  rw [pathB]; simp [h, hi]

def proofB (m : Nat) (l : List ByteArray) (whole : Bool) : List ByteArray :=
  if h : 2 ≤ l.length ∧ m ≠ l.length then
    if m ≤ halfN l.length then proofB m (l.take (halfN l.length)) whole ++ [treeB (l.drop (halfN l.length))]
    else proofB (m - halfN l.length) (l.drop (halfN l.length)) false ++ [treeB (l.take (halfN l.length))]
  else if whole then [] else [treeB l]
termination_by l.length
decreasing_by
  · have := halfN_lt h.1; simp; omega
  · have := halfN_pos l.length; simp; omega
theorem proofB_all {m : Nat} {l : List ByteArray} (h : m = l.length) (whole : Bool) : proofB m l whole = if whole then [] else [treeB l] := by
  rw [proofB]; simp [h]
theorem proofB_left {m : Nat} {l : List ByteArray} (h : 2 ≤ l.length) (h2 : m ≠ l.length) (hm : m ≤ halfN l.length) (whole : Bool) :
    proofB m l whole = proofB m (l.take (halfN l.length)) whole ++ [treeB (l.drop (halfN l.length))] := by
  rw [proofB]; simp [h, h2, hm]
theorem proofB_right {m : Nat} {l : List ByteArray} (h : 2 ≤ l.length) (h2 : m ≠ l.length) (hm : ¬ m ≤ halfN l.length) (whole : Bool) :
    proofB m l whole = proofB (m - halfN l.length) (l.drop (halfN l.length)) false ++ [treeB (l.take (halfN l.length))] := by
  rw [proofB]; simp [h, h2, hm]

/-! ### Ways up: true, if what is put to it stands ahead -/
def itd (a l : Nat) : List Bool :=
  if h : l = 0 then [] else if a % 2 = 1 then true :: itd (a / 2) (l / 2) else if a = l then itd (a / 2) (l / 2) else false :: itd (a / 2) (l / 2)
termination_by l
decreasing_by all_goals omega
theorem itd_zero (a : Nat) : itd a 0 = [] := by rw [itd]; simp
theorem itd_odd {a l : Nat} (h : l ≠ 0) (ha : a % 2 = 1) : itd a l = true :: itd (a / 2) (l / 2) := by rw [itd]; simp [h, ha]
theorem itd_last {a : Nat} (h : a ≠ 0) (ha : a % 2 = 0) : itd a a = itd (a / 2) (a / 2) := by rw [itd]; simp [h, ha]
theorem itd_even {a l : Nat} (h : l ≠ 0) (ha : a % 2 = 0) (hl : a ≠ l) : itd a l = false :: itd (a / 2) (l / 2) := by rw [itd]; simp [h, ha, hl]

theorem itd_A (m : Nat) : ∀ i last, i < 2 ^ m → 2 ^ m ≤ last → last < 2 * 2 ^ m → itd i last = itd i (2 ^ m - 1) ++ [false] := by
  induction m with
  | zero =>
    intro i last h1 h2 h3
    obtain rfl : i = 0 := by omega
    obtain rfl : last = 1 := by omega
    rw [itd_even (by omega) (by omega) (by omega)]; simp [itd_zero]
  | succ m ih =>
    intro i last h1 h2 h3
    rw [Nat.pow_succ] at h1 h2 h3 ⊢
    have hp : 1 ≤ 2 ^ m := Nat.one_le_two_pow
    have hh : (2 ^ m * 2 - 1) / 2 = 2 ^ m - 1 := by omega
    have I := ih (i / 2) (last / 2) (by omega) (by omega) (by omega)
    by_cases ho : i % 2 = 1
    · rw [itd_odd (by omega) ho, itd_odd (by omega) ho, I, hh]; rfl
    · rw [itd_even (by omega) (by omega) (by omega), itd_even (l := 2 ^ m * 2 - 1) (by omega) (by omega) (by omega), I, hh]; rfl
theorem itd_B (m : Nat) : ∀ i last, 2 ^ m ≤ i → i ≤ last → last < 2 * 2 ^ m → itd i last = itd (i - 2 ^ m) (last - 2 ^ m) ++ [true] := by
  induction m with
  | zero =>
    intro i last h1 h2 h3
    obtain rfl : i = 1 := by omega
    obtain rfl : last = 1 := by omega
    rw [itd_odd (by omega) (by omega)]; simp [itd_zero]
  | succ m ih =>
    intro i last h1 h2 h3
    rw [Nat.pow_succ] at h1 h3 ⊢
    have hp : 1 ≤ 2 ^ m := Nat.one_le_two_pow
    have I := ih (i / 2) (last / 2) (by omega) (by omega) (by omega)
    have e1 : (i - 2 ^ m * 2) / 2 = i / 2 - 2 ^ m := by omega
    have e2 : (last - 2 ^ m * 2) / 2 = last / 2 - 2 ^ m := by omega
    by_cases ho : i % 2 = 1
    · rw [itd_odd (by omega) ho, itd_odd (l := last - 2 ^ m * 2) (by omega) (by omega), I, e1, e2]; rfl
    · by_cases hl : i = last
      · subst hl
        rw [itd_last (by omega) (by omega), I]
        by_cases hz : i - 2 ^ m * 2 = 0
        · rw [hz]; rw [show i / 2 - 2 ^ m = 0 by omega]
        · rw [itd_last hz (by omega), e1]
      · rw [itd_even (by omega) (by omega) hl, itd_even (a := i - 2 ^ m * 2) (by omega) (by omega) (by omega), I, e1, e2]; rfl
theorem itd_nil {a l : Nat} (hal : a ≤ l) (hl : l ≠ 0) : itd a l ≠ [] := by
  induction l using Nat.strongRecOn generalizing a with
  | _ l ih =>
    by_cases ho : a % 2 = 1
    · rw [itd_odd hl ho]; simp
    · by_cases he : a = l
      · subst he
        rw [itd_last hl (by omega)]
        exact ih (a / 2) (by omega) (Nat.le_refl _) (by omega)
      · rw [itd_even hl (by omega) he]; simp

def dirs (i n : Nat) : List Bool :=
  if h : 2 ≤ n then if i < halfN n then dirs i (halfN n) ++ [false] else dirs (i - halfN n) (n - halfN n) ++ [true] else []
termination_by n
decreasing_by
  · exact halfN_lt h
  · have := halfN_pos n; omega
theorem dirs_one {i n : Nat} (h : ¬ 2 ≤ n) : dirs i n = [] := by rw [dirs]; simp [h]
theorem dirs_left {i n : Nat} (h : 2 ≤ n) (hi : i < halfN n) : dirs i n = dirs i (halfN n) ++ [false] := by rw [dirs]; simp [h, hi]
theorem dirs_right {i n : Nat} (h : 2 ≤ n) (hi : ¬ i < halfN n) : dirs i n = dirs (i - halfN n) (n - halfN n) ++ [true] := by rw [dirs]; simp [h, hi]
theorem dirs_eq {i n : Nat} (h : i < n) : dirs i n = itd i (n - 1) := by
  induction n using Nat.strongRecOn generalizing i with
  | _ n ih =>
    by_cases h2 : 2 ≤ n
    · have hlt := halfN_lt h2
      have hle := halfN_le h2
      have hp := halfN_pos n
      by_cases hi : i < halfN n
      · rw [dirs_left h2 hi, ih _ hlt hi]
        unfold halfN at *
        exact (itd_A _ i (n - 1) hi (by omega) (by omega)).symm
      · rw [dirs_right h2 hi, ih _ (by omega) (by omega)]
        unfold halfN at *
        rw [itd_B (Nat.log2 (n - 1)) i (n - 1) (by omega) (by omega) (by omega)]
        congr 2; omega
    · rw [dirs_one h2, show n - 1 = 0 by omega, itd_zero]

/-! ### Going up -/
def cl (h : ByteArray) : List Bool → List ByteArray → Option ByteArray
  | [], [] => some h
  | d :: ds, p :: ps => cl (if d then nodeB p h else nodeB h p) ds ps
  | _, _ => none
theorem cl_append {h h' : ByteArray} : ∀ {ds : List Bool} {ps : List ByteArray}, cl h ds ps = some h' → ∀ (d : Bool) (p : ByteArray), cl h (ds ++ [d]) (ps ++ [p]) = some (if d then nodeB p h' else nodeB h' p)
  | [], [], hh, d, p => by simp [cl] at hh ⊢; rw [hh]
  | [], _ :: _, hh, d, p => by simp [cl] at hh
  | _ :: _, [], hh, d, p => by simp [cl] at hh
  | _ :: ds, _ :: ps, hh, d, p => by
    simp only [List.cons_append, cl] at hh ⊢
    exact cl_append hh d p
theorem path_law (l : List ByteArray) (i : Nat) (h : i < l.length) : cl (leafB l[i]) (dirs i l.length) (pathB l i) = some (treeB l) := by
  induction hn : l.length using Nat.strongRecOn generalizing l i with
  | _ n ih =>
    subst hn
    by_cases h2 : 2 ≤ l.length
    · have hlt := halfN_lt h2
      have hp := halfN_pos l.length
      rw [treeB_two h2]
      by_cases hi : i < halfN l.length
      · have I := ih (halfN l.length) hlt (l.take (halfN l.length)) i (by simp; omega) (by simp; omega)
        rw [List.getElem_take] at I
        rw [dirs_left h2 hi, pathB_left h2 hi, cl_append I]; rfl
      · have I := ih (l.length - halfN l.length) (by omega) (l.drop (halfN l.length)) (i - halfN l.length) (by simp; omega) (by simp)
        rw [List.getElem_drop] at I
        simp only [show halfN l.length + (i - halfN l.length) = i by omega] at I
        rw [dirs_right h2 hi, pathB_right h2 hi, cl_append I]; rfl
    · obtain ⟨x, rfl⟩ : ∃ x, l = [x] := List.length_eq_one_iff.1 (by omega)
      have : i = 0 := by simp at h; exact h
      subst this
      rw [dirs_one (by simp), pathB_one (by simp), treeB_one]; rfl

/-- What is taken of a list at a place, and the place behind it. -/
def tk (l : List ByteArray) (a : Nat) : ByteArray := l.getD a ByteArray.empty
def nx (l : List ByteArray) (a : Nat) : Nat := if a < l.length then a + 1 else a
def stepP (l : List ByteArray) (s : ByteArray × Nat) (d : Bool) : ByteArray × Nat := (if d then nodeA (tk l s.2) s.1 else nodeA s.1 (tk l s.2), nx l s.2)
theorem stepP_empty (l : List ByteArray) (ds : List Bool) : ∀ a, (ds.foldl (stepP l) (ByteArray.empty, a)).1 = ByteArray.empty := by
  induction ds with
  | nil => intro a; rfl
  | cons d ds ih => intro a; rw [List.foldl_cons]; unfold stepP; simp only [nodeA_left, nodeA_right, ite_self]; exact ih _
theorem tk_of {l : List ByteArray} (hl : ∀ x ∈ l, x.size = 32) {a : Nat} (ha : a < l.length) : (tk l a).size = 32 ∧ l.drop a = tk l a :: l.drop (a + 1) := by
  have e : tk l a = l[a] := by unfold tk; simp [List.getElem?_eq_getElem ha]
  rw [e]
  exact ⟨hl _ (List.getElem_mem _), List.drop_eq_getElem_cons ha⟩
theorem tk_out {l : List ByteArray} {a : Nat} (ha : ¬ a < l.length) : tk l a = ByteArray.empty := by
  unfold tk; rw [List.getD_eq_getElem?_getD, List.getElem?_eq_none (by omega)]; rfl
theorem foldP {l : List ByteArray} (hl : ∀ x ∈ l, x.size = 32) {root : ByteArray} (hr : root.size = 32) : ∀ (ds : List Bool) (t : ByteArray) (a : Nat), t.size = 32 → a ≤ l.length →
    (((ds.foldl (stepP l) (t, a)).1 = root ∧ (ds.foldl (stepP l) (t, a)).2 = l.length) ↔ cl t ds (l.drop a) = some root) := by
  intro ds
  induction ds with
  | nil =>
    intro t a ht ha
    simp only [List.foldl_nil]
    by_cases h : a < l.length
    · rw [(tk_of hl h).2]; simp [cl]; omega
    · rw [List.drop_of_length_le (by omega)]; simp [cl]; omega
  | cons d ds ih =>
    intro t a ht ha
    rw [List.foldl_cons]
    by_cases h : a < l.length
    · obtain ⟨h1, h2⟩ := tk_of hl h
      rw [h2]
      have e : stepP l (t, a) d = (if d then nodeB (tk l a) t else nodeB t (tk l a), a + 1) := by
        unfold stepP nx; simp only [nodeA_of h1 ht, nodeA_of ht h1, if_pos h]
      rw [e]
      exact ih _ (a + 1) (by split <;> exact nodeB_size _ _) (by omega)
    · have e : stepP l (t, a) d = (ByteArray.empty, nx l a) := by
        unfold stepP; simp only [tk_out h, nodeA_left, nodeA_right, ite_self]
      rw [e, List.drop_of_length_le (by omega), stepP_empty]
      simp only [cl]
      constructor
      · rintro ⟨h1, _⟩; rw [← h1] at hr; simp at hr
      · intro h1; cases h1

/-! ### Proofs that the first ones are the beginning -/
def pd (m n : Nat) : List Bool :=
  if h : 2 ≤ n ∧ m ≠ n then if m ≤ halfN n then pd m (halfN n) ++ [false] else pd (m - halfN n) (n - halfN n) ++ [true] else []
termination_by n
decreasing_by
  · exact halfN_lt h.1
  · have := halfN_pos n; omega
theorem pd_all (n : Nat) : pd n n = [] := by rw [pd]; simp
theorem pd_left {m n : Nat} (h : 2 ≤ n) (h2 : m ≠ n) (hm : m ≤ halfN n) : pd m n = pd m (halfN n) ++ [false] := by rw [pd]; simp [h, h2, hm]
theorem pd_right {m n : Nat} (h : 2 ≤ n) (h2 : m ≠ n) (hm : ¬ m ≤ halfN n) : pd m n = pd (m - halfN n) (n - halfN n) ++ [true] := by rw [pd]; simp [h, h2, hm]

def sitd (a l : Nat) : List Bool := if a % 2 = 1 then sitd (a / 2) (l / 2) else itd a l
termination_by a
decreasing_by omega
theorem sitd_odd {a l : Nat} (h : a % 2 = 1) : sitd a l = sitd (a / 2) (l / 2) := by rw [sitd]; simp [h]
theorem sitd_even {a l : Nat} (h : a % 2 = 0) : sitd a l = itd a l := by rw [sitd]; simp [h]
theorem sitd_A (m : Nat) : ∀ i last, i < 2 ^ m → 2 ^ m ≤ last → last < 2 * 2 ^ m → sitd i last = sitd i (2 ^ m - 1) ++ [false] := by
  induction m with
  | zero =>
    intro i last h1 h2 h3
    obtain rfl : i = 0 := by omega
    rw [sitd_even (by omega), sitd_even (by omega)]
    exact itd_A 0 0 last h1 h2 h3
  | succ m ih =>
    intro i last h1 h2 h3
    by_cases ho : i % 2 = 1
    · rw [Nat.pow_succ] at h1 h2 h3 ⊢
      have hp : 1 ≤ 2 ^ m := Nat.one_le_two_pow
      rw [sitd_odd ho, sitd_odd (l := 2 ^ m * 2 - 1) ho, ih (i / 2) (last / 2) (by omega) (by omega) (by omega), show (2 ^ m * 2 - 1) / 2 = 2 ^ m - 1 by omega]
    · rw [sitd_even (by omega), sitd_even (by omega)]
      exact itd_A (m + 1) i last h1 h2 h3
theorem sitd_B (m : Nat) : ∀ i last, 2 ^ m ≤ i → i < last → last < 2 * 2 ^ m → sitd i last = sitd (i - 2 ^ m) (last - 2 ^ m) ++ [true] := by
  induction m with
  | zero => intro i last h1 h2 h3; omega
  | succ m ih =>
    intro i last h1 h2 h3
    by_cases ho : i % 2 = 1
    · rw [Nat.pow_succ] at h1 h3 ⊢
      have hp : 1 ≤ 2 ^ m := Nat.one_le_two_pow
      rw [sitd_odd ho, sitd_odd (a := i - 2 ^ m * 2) (by omega), ih (i / 2) (last / 2) (by omega) (by omega) (by omega), show (i - 2 ^ m * 2) / 2 = i / 2 - 2 ^ m by omega, show (last - 2 ^ m * 2) / 2 = last / 2 - 2 ^ m by omega]
    · rw [sitd_even (by omega), sitd_even (a := i - 2 ^ (m + 1)) (by rw [Nat.pow_succ] at h1 ⊢; omega)]
      exact itd_B (m + 1) i last h1 (by omega) h3
theorem pow_sitd (j : Nat) : sitd (2 ^ j - 1) (2 ^ j - 1) = [] := by
  induction j with
  | zero => rw [sitd_even (by omega)]; exact itd_zero _
  | succ j ih =>
    have hp : 1 ≤ 2 ^ j := Nat.one_le_two_pow
    rw [Nat.pow_succ, sitd_odd (by omega), show (2 ^ j * 2 - 1) / 2 = 2 ^ j - 1 by omega]; exact ih
theorem pd_eq {m n : Nat} (h1 : 1 ≤ m) (h : m < n ∨ (m = n ∧ ∃ j, n = 2 ^ j)) : pd m n = sitd (m - 1) (n - 1) := by
  induction n using Nat.strongRecOn generalizing m with
  | _ n ih =>
    rcases h with h | ⟨rfl, j, rfl⟩
    · have h2 : 2 ≤ n := by omega
      have hlt := halfN_lt h2
      have hle := halfN_le h2
      have hp := halfN_pos n
      by_cases hm : m ≤ halfN n
      · rw [pd_left h2 (by omega) hm, ih _ hlt h1 (by rcases Nat.lt_or_ge m (halfN n) with q | q; exact .inl q; exact .inr ⟨by omega, _, rfl⟩)]
        unfold halfN at *
        exact (sitd_A _ (m - 1) (n - 1) (by omega) (by omega) (by omega)).symm
      · rw [pd_right h2 (by omega) hm, ih _ (by omega) (by omega) (.inl (by omega))]
        unfold halfN at *
        rw [sitd_B (Nat.log2 (n - 1)) (m - 1) (n - 1) (by omega) (by omega) (by omega)]
        congr 2 <;> omega
    · rw [pd_all, pow_sitd]
/-- Nothing but ways to the left. -/
def lft (ds : List Bool) : Bool := ds.all (fun d => !d)
theorem lft_false (ds : List Bool) : lft (ds ++ [false]) = lft ds := by simp [lft]
theorem lft_true (ds : List Bool) : lft (ds ++ [true]) = false := by simp [lft]
theorem lft_pd {m n : Nat} (h1 : 1 ≤ m) (h : m < n ∨ (m = n ∧ ∃ j, n = 2 ^ j)) : lft (pd m n) = true ↔ ∃ j, m = 2 ^ j := by
  induction n using Nat.strongRecOn generalizing m with
  | _ n ih =>
    rcases h with h | ⟨rfl, j, rfl⟩
    · have h2 : 2 ≤ n := by omega
      have hlt := halfN_lt h2
      have hle := halfN_le h2
      by_cases hm : m ≤ halfN n
      · rw [pd_left h2 (by omega) hm, lft_false]
        exact ih _ hlt h1 (by rcases Nat.lt_or_ge m (halfN n) with q | q; exact .inl q; exact .inr ⟨by omega, _, rfl⟩)
      · rw [pd_right h2 (by omega) hm, lft_true]
        constructor
        · intro h; cases h
        · rintro ⟨j, rfl⟩
          unfold halfN at hm hle
          have c1 : 2 ^ (Nat.log2 (n - 1)) < 2 ^ j := by omega
          have c2 : 2 ^ j < 2 ^ (Nat.log2 (n - 1) + 1) := by rw [Nat.pow_succ]; omega
          have d1 := (Nat.pow_lt_pow_iff_right (a := 2) (by omega)).1 c1
          have d2 := (Nat.pow_lt_pow_iff_right (a := 2) (by omega)).1 c2
          omega
    · rw [pd_all]; simp [lft]; exact ⟨j, rfl⟩

def cl2 (w r : ByteArray) : List Bool → List ByteArray → Option (ByteArray × ByteArray)
  | [], [] => some (w, r)
  | d :: ds, p :: ps => if d then cl2 (nodeB p w) (nodeB p r) ds ps else cl2 w (nodeB r p) ds ps
  | _, _ => none
theorem cl2_append {w r w' r' : ByteArray} : ∀ {ds : List Bool} {ps : List ByteArray}, cl2 w r ds ps = some (w', r') → ∀ (d : Bool) (p : ByteArray), cl2 w r (ds ++ [d]) (ps ++ [p]) = some (if d then (nodeB p w', nodeB p r') else (w', nodeB r' p)) := by
  intro ds
  induction ds generalizing w r with
  | nil =>
    intro ps hh d p
    match ps, hh with
    | [], hh =>
      simp only [cl2, Option.some.injEq, Prod.mk.injEq] at hh
      obtain ⟨rfl, rfl⟩ := hh
      cases d <;> simp [cl2]
  | cons d0 ds ih =>
    intro ps hh d p
    match ps, hh with
    | p0 :: ps, hh =>
      simp only [List.cons_append, cl2] at hh ⊢
      cases d0
      · simp at hh ⊢; exact ih hh d p
      · simp at hh ⊢; exact ih hh d p
def stepC (l : List ByteArray) (s : ByteArray × ByteArray × Nat) (d : Bool) : ByteArray × ByteArray × Nat :=
  if d then (nodeA (tk l s.2.2) s.1, nodeA (tk l s.2.2) s.2.1, nx l s.2.2) else (s.1, nodeA s.2.1 (tk l s.2.2), nx l s.2.2)
def seedC (l : List ByteArray) (whole : ByteArray) (a : Nat) : ByteArray × ByteArray × Nat := if whole.size = 0 then (tk l a, tk l a, nx l a) else (whole, whole, a)
theorem stepC_empty (l : List ByteArray) (ds : List Bool) : ∀ w a, (ds.foldl (stepC l) (w, ByteArray.empty, a)).2.1 = ByteArray.empty := by
  induction ds with
  | nil => intro w a; rfl
  | cons d ds ih =>
    intro w a; rw [List.foldl_cons]; unfold stepC
    cases d
    · simp only [nodeA_left]; exact ih _ _
    · simp only [if_true, nodeA_right]; exact ih _ _
theorem foldC {l : List ByteArray} (hl : ∀ x ∈ l, x.size = 32) {was root : ByteArray} (hr : root.size = 32) : ∀ (ds : List Bool) (w r : ByteArray) (a : Nat), w.size = 32 → r.size = 32 → a ≤ l.length →
    (((ds.foldl (stepC l) (w, r, a)).1 = was ∧ (ds.foldl (stepC l) (w, r, a)).2.1 = root ∧ (ds.foldl (stepC l) (w, r, a)).2.2 = l.length) ↔ cl2 w r ds (l.drop a) = some (was, root)) := by
  intro ds
  induction ds with
  | nil =>
    intro w r a hw hrr ha
    simp only [List.foldl_nil]
    by_cases h : a < l.length
    · rw [(tk_of hl h).2]; simp [cl2]; omega
    · rw [List.drop_of_length_le (by omega)]; simp [cl2]; omega
  | cons d ds ih =>
    intro w r a hw hrr ha
    rw [List.foldl_cons]
    by_cases h : a < l.length
    · obtain ⟨h1, h2⟩ := tk_of hl h
      rw [h2]
      cases d
      · have e : stepC l (w, r, a) false = (w, nodeB r (tk l a), a + 1) := by
          unfold stepC nx; simp [nodeA_of hrr h1, if_pos h]
        rw [e]
        simpa [cl2] using ih w _ (a + 1) hw (nodeB_size _ _) (by omega)
      · have e : stepC l (w, r, a) true = (nodeB (tk l a) w, nodeB (tk l a) r, a + 1) := by
          unfold stepC nx; simp [nodeA_of h1 hw, nodeA_of h1 hrr, if_pos h]
        rw [e]
        simpa [cl2] using ih _ _ (a + 1) (nodeB_size _ _) (nodeB_size _ _) (by omega)
    · have e : ∃ w', stepC l (w, r, a) d = (w', ByteArray.empty, nx l a) := by
        cases d
        · exact ⟨w, by unfold stepC; simp only [tk_out h, nodeA_right]; rfl⟩
        · exact ⟨_, by unfold stepC; simp only [tk_out h, nodeA_left]; rfl⟩
      obtain ⟨w', e⟩ := e
      rw [e, List.drop_of_length_le (by omega), stepC_empty]
      simp only [cl2]
      constructor
      · rintro ⟨_, h1, _⟩; rw [← h1] at hr; simp at hr
      · intro h1; cases h1

/-- The proof of the first m of a list leads to both trees, whole or not. -/
theorem proof_law (l : List ByteArray) (m : Nat) (h1 : 1 ≤ m) (h : m ≤ l.length) (whole : Bool) :
    ∃ s ps, (if whole && lft (pd m l.length) then s = treeB (l.take m) ∧ proofB m l whole = ps else proofB m l whole = s :: ps) ∧ cl2 s s (pd m l.length) ps = some (treeB (l.take m), treeB l) := by
  induction hn : l.length using Nat.strongRecOn generalizing l m whole with
  | _ n ih =>
    subst hn
    by_cases he : m = l.length
    · subst he
      rw [proofB_all rfl, pd_all, List.take_of_length_le (Nat.le_refl _)]
      refine ⟨treeB l, [], ?_, rfl⟩
      cases whole <;> simp [lft]
    · have h2 : 2 ≤ l.length := by omega
      have hlt := halfN_lt h2
      have hp := halfN_pos l.length
      by_cases hm : m ≤ halfN l.length
      · obtain ⟨s, ps, hA, hB⟩ := ih (halfN l.length) hlt (l.take (halfN l.length)) m h1 (by simp; omega) whole (by simp; omega)
        refine ⟨s, ps ++ [treeB (l.drop (halfN l.length))], ?_, ?_⟩
        · rw [proofB_left h2 he hm, pd_left h2 he hm, lft_false]
          rw [List.take_take, Nat.min_eq_left hm] at hA
          split at hA
          · rename_i hc; rw [if_pos hc]; exact ⟨hA.1, by rw [hA.2]⟩
          · rename_i hc; rw [if_neg hc, hA]; rfl
        · rw [pd_left h2 he hm, cl2_append hB, treeB_two h2, List.take_take, Nat.min_eq_left hm]; rfl
      · obtain ⟨s, ps, hA, hB⟩ := ih (l.length - halfN l.length) (by omega) (l.drop (halfN l.length)) (m - halfN l.length) (by omega) (by simp; omega) false (by simp)
        refine ⟨s, ps ++ [treeB (l.take (halfN l.length))], ?_, ?_⟩
        · rw [proofB_right h2 he hm, pd_right h2 he hm, lft_true]
          simp at hA ⊢; rw [hA]; rfl
        · rw [pd_right h2 he hm, cl2_append hB]
          have e1 : treeB (l.take m) = nodeB (treeB (l.take (halfN l.length))) (treeB ((l.drop (halfN l.length)).take (m - halfN l.length))) := by
            have hl : (l.take m).length = m := by simp; omega
            have hh : halfN m = halfN l.length := by
              have a := halfN_le h2
              unfold halfN at hm a ⊢
              exact halfN_unique (by omega) (by omega)
            rw [treeB_two (by omega), hl, hh, List.take_take, Nat.min_eq_left (by omega), List.drop_take]
          rw [e1, ← treeB_two h2]; rfl
end Go.Proofs.YtnjegmffjelnpaaGreatDoor
