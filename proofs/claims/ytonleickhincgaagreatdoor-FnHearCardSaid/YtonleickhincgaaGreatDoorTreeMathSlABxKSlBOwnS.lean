/-
  Parts of one proof, laid as one text: TreeMath, SlA, BxK, SlB, OwnS; what each says stands at its head.
-/
import Derived.Test.YtonleickhincgaaGreatDoorBytesDigMath
import Derived.Test.YtonleickhincgaaGreatDoorRows
import Derived.Handy
import Derived.OwnWalk
import Derived.Deep.QuietTactic
import Derived.BigQuiet
import Derived.Deep.AppendLies
/-
  Trees of digests, as plain functions: leaves, nodes, trees, paths, proofs, and the two ways of going up a path (from the top down, and bit by bit), which are one.
  Nothing of the program is named here.
-/
namespace Go.Proofs.YtonleickhincgaaGreatDoor
open Go.RowKit Go.Lib
set_option linter.unusedVariables false

def m0 : ByteArray := ⟨#[0]⟩
def m1 : ByteArray := ⟨#[1]⟩
def leafB (t : ByteArray) : ByteArray := digB (m0 ++ t)
def nodeB (l r : ByteArray) : ByteArray := digB (m1 ++ l ++ r)
def leafA (t : ByteArray) : ByteArray := if t.size ≤ 100 then leafB t else ByteArray.empty
def nodeA (l r : ByteArray) : ByteArray := if l.size = 32 ∧ r.size = 32 then nodeB l r else ByteArray.empty
theorem leafB_size (t : ByteArray) : (leafB t).size = 32 := digB_size _
theorem nodeB_size (l r : ByteArray) : (nodeB l r).size = 32 := digB_size _
theorem nodeA_of {l r : ByteArray} (h : l.size = 32) (h2 : r.size = 32) : nodeA l r = nodeB l r := if_pos ⟨h, h2⟩
theorem nodeA_left (r : ByteArray) : nodeA ByteArray.empty r = ByteArray.empty := if_neg (fun h => by have := h.1; simp at this)
theorem nodeA_right (l : ByteArray) : nodeA l ByteArray.empty = ByteArray.empty := if_neg (fun h => by have := h.2; simp at this)

/-- The greatest power of two below a number above 1. -/
def halfN (n : Nat) : Nat := 2 ^ Nat.log2 (n - 1)
theorem halfN_pos (n : Nat) : 1 ≤ halfN n := Nat.one_le_two_pow
theorem halfN_lt {n : Nat} (h : 2 ≤ n) : halfN n < n := by
  have := Nat.log2_self_le (n := n - 1) (by omega)
  unfold halfN; omega
theorem halfN_le {n : Nat} (h : 2 ≤ n) : n ≤ 2 * halfN n := by
  have h1 : n - 1 < 2 ^ (Nat.log2 (n - 1) + 1) := Nat.lt_log2_self
  rw [Nat.pow_succ] at h1
  unfold halfN; omega
theorem halfN_unique {n j : Nat} (h1 : 2 ^ j < n) (h2 : n ≤ 2 * 2 ^ j) : halfN n = 2 ^ j := by
  have hp : 1 ≤ 2 ^ j := Nat.one_le_two_pow
  have e : Nat.log2 (n - 1) = j := by
    have a := Nat.log2_self_le (n := n - 1) (by omega)
    have b : n - 1 < 2 ^ (Nat.log2 (n - 1) + 1) := Nat.lt_log2_self
    have c1 : 2 ^ j < 2 ^ (Nat.log2 (n - 1) + 1) := by omega
    have c2 : 2 ^ (Nat.log2 (n - 1)) < 2 ^ (j + 1) := by rw [Nat.pow_succ]; omega
    have d1 := (Nat.pow_lt_pow_iff_right (a := 2) (by omega)).1 c1
    have d2 := (Nat.pow_lt_pow_iff_right (a := 2) (by omega)).1 c2
    omega
  unfold halfN; rw [e]

def treeB (l : List ByteArray) : ByteArray :=
  if h : 2 ≤ l.length then nodeB (treeB (l.take (halfN l.length))) (treeB (l.drop (halfN l.length)))
  else match l with
    | [] => digB ByteArray.empty
    | x :: _ => leafB x
termination_by l.length
decreasing_by
  · have := halfN_lt h; simp; omega
  · have := halfN_pos l.length; simp; omega
theorem treeB_nil : treeB [] = digB ByteArray.empty := by rw [treeB]; simp
theorem treeB_one (x : ByteArray) : treeB [x] = leafB x := by rw [treeB]; simp
theorem treeB_two {l : List ByteArray} (h : 2 ≤ l.length) : treeB l = nodeB (treeB (l.take (halfN l.length))) (treeB (l.drop (halfN l.length))) := by
  rw [treeB]; simp [h]
theorem treeB_size (l : List ByteArray) : (treeB l).size = 32 := by
  match l with
  | [] => rw [treeB_nil, digB_size]
  | [x] => rw [treeB_one, leafB_size]
  | x :: y :: t => rw [treeB_two (by simp), nodeB_size]

def pathB (l : List ByteArray) (i : Nat) : List ByteArray :=
  if h : 2 ≤ l.length then
    if i < halfN l.length then pathB (l.take (halfN l.length)) i ++ [treeB (l.drop (halfN l.length))]
    else pathB (l.drop (halfN l.length)) (i - halfN l.length) ++ [treeB (l.take (halfN l.length))]
  else []
termination_by l.length
decreasing_by
  · have := halfN_lt h; simp; omega
  · have := halfN_pos l.length; simp; omega
theorem pathB_one {l : List ByteArray} (h : ¬ 2 ≤ l.length) (i : Nat) : pathB l i = [] := by rw [pathB]; simp [h]
theorem pathB_left {l : List ByteArray} (h : 2 ≤ l.length) {i : Nat} (hi : i < halfN l.length) : pathB l i = pathB (l.take (halfN l.length)) i ++ [treeB (l.drop (halfN l.length))] := by
  rw [pathB]; simp [h, hi]
theorem pathB_right {l : List ByteArray} (h : 2 ≤ l.length) {i : Nat} (hi : ¬ i < halfN l.length) : pathB l i = pathB (l.drop (halfN l.length)) (i - halfN l.length) ++ [treeB (l.take (halfN l.length))] := by
  rw [pathB]; simp [h, hi]

def proofB (m : Nat) (l : List ByteArray) (whole : Bool) : List ByteArray :=
  if h : 2 ≤ l.length ∧ m ≠ l.length then
    if m ≤ halfN l.length then proofB m (l.take (halfN l.length)) whole ++ [treeB (l.drop (halfN l.length))]
    else proofB (m - halfN l.length) (l.drop (halfN l.length)) false ++ [treeB (l.take (halfN l.length))]
  else if whole then [] else [treeB l]
termination_by l.length
decreasing_by
  · have := halfN_lt h.1; simp; omega
  · have := halfN_pos l.length; simp; omega
theorem proofB_all {m : Nat} {l : List ByteArray} (h : m = l.length) (whole : Bool) : proofB m l whole = if whole then [] else [treeB l] := by
  rw [proofB]; simp [h]
theorem proofB_left {m : Nat} {l : List ByteArray} (h : 2 ≤ l.length) (h2 : m ≠ l.length) (hm : m ≤ halfN l.length) (whole : Bool) :
    proofB m l whole = proofB m (l.take (halfN l.length)) whole ++ [treeB (l.drop (halfN l.length))] := by
  rw [proofB]; simp [h, h2, hm]
theorem proofB_right {m : Nat} {l : List ByteArray} (h : 2 ≤ l.length) (h2 : m ≠ l.length) (hm : ¬ m ≤ halfN l.length) (whole : Bool) :
    proofB m l whole = proofB (m - halfN l.length) (l.drop (halfN l.length)) false ++ [treeB (l.take (halfN l.length))] := by
  rw [proofB]; simp [h, h2, hm]

/-! ### Ways up: true, if what is put to it stands ahead -/
def itd (a l : Nat) : List Bool :=
  if h : l = 0 then [] else if a % 2 = 1 then true :: itd (a / 2) (l / 2) else if a = l then itd (a / 2) (l / 2) else false :: itd (a / 2) (l / 2)
termination_by l
decreasing_by all_goals omega
theorem itd_zero (a : Nat) : itd a 0 = [] := by rw [itd]; simp
theorem itd_odd {a l : Nat} (h : l ≠ 0) (ha : a % 2 = 1) : itd a l = true :: itd (a / 2) (l / 2) := by rw [itd]; simp [h, ha]
theorem itd_last {a : Nat} (h : a ≠ 0) (ha : a % 2 = 0) : itd a a = itd (a / 2) (a / 2) := by rw [itd]; simp [h, ha]
theorem itd_even {a l : Nat} (h : l ≠ 0) (ha : a % 2 = 0) (hl : a ≠ l) : itd a l = false :: itd (a / 2) (l / 2) := by rw [itd]; simp [h, ha, hl]

theorem itd_A (m : Nat) : ∀ i last, i < 2 ^ m → 2 ^ m ≤ last → last < 2 * 2 ^ m → itd i last = itd i (2 ^ m - 1) ++ [false] := by
  induction m with
  | zero =>
    intro i last h1 h2 h3
    obtain rfl : i = 0 := by omega
    obtain rfl : last = 1 := by omega
    rw [itd_even (by omega) (by omega) (by omega)]; simp [itd_zero]
  | succ m ih =>
    intro i last h1 h2 h3
    rw [Nat.pow_succ] at h1 h2 h3 ⊢
    have hp : 1 ≤ 2 ^ m := Nat.one_le_two_pow
    have hh : (2 ^ m * 2 - 1) / 2 = 2 ^ m - 1 := by omega
    have I := ih (i / 2) (last / 2) (by omega) (by omega) (by omega)
    by_cases ho : i % 2 = 1
    · rw [itd_odd (by omega) ho, itd_odd (by omega) ho, I, hh]; rfl
    · rw [itd_even (by omega) (by omega) (by omega), itd_even (l := 2 ^ m * 2 - 1) (by omega) (by omega) (by omega), I, hh]; rfl
theorem itd_B (m : Nat) : ∀ i last, 2 ^ m ≤ i → i ≤ last → last < 2 * 2 ^ m → itd i last = itd (i - 2 ^ m) (last - 2 ^ m) ++ [true] := by
  induction m with
  | zero =>
    intro i last h1 h2 h3
    obtain rfl : i = 1 := by omega
    obtain rfl : last = 1 := by omega
    rw [itd_odd (by omega) (by omega)]; simp [itd_zero]
  | succ m ih =>
    intro i last h1 h2 h3
    rw [Nat.pow_succ] at h1 h3 ⊢
    have hp : 1 ≤ 2 ^ m := Nat.one_le_two_pow
    have I := ih (i / 2) (last / 2) (by omega) (by omega) (by omega)
    have e1 : (i - 2 ^ m * 2) / 2 = i / 2 - 2 ^ m := by omega
    have e2 : (last - 2 ^ m * 2) / 2 = last / 2 - 2 ^ m := by omega
    by_cases ho : i % 2 = 1
    · rw [itd_odd (by omega) ho, itd_odd (l := last - 2 ^ m * 2) (by omega) (by omega), I, e1, e2]; rfl
    · by_cases hl : i = last
      · subst hl
        rw [itd_last (by omega) (by omega), I]
        by_cases hz : i - 2 ^ m * 2 = 0
        · rw [hz]; rw [show i / 2 - 2 ^ m = 0 by omega]
        · rw [itd_last hz (by omega), e1]
      · rw [itd_even (by omega) (by omega) hl, itd_even (a := i - 2 ^ m * 2) (by omega) (by omega) (by omega), I, e1, e2]; rfl
theorem itd_nil {a l : Nat} (hal : a ≤ l) (hl : l ≠ 0) : itd a l ≠ [] := by
  induction l using Nat.strongRecOn generalizing a with
  | _ l ih =>
    by_cases ho : a % 2 = 1
    · rw [itd_odd hl ho]; simp
    · by_cases he : a = l
      · subst he
        rw [itd_last hl (by omega)]
        exact ih (a / 2) (by omega) (Nat.le_refl _) (by omega)
      · rw [itd_even hl (by omega) he]; simp

def dirs (i n : Nat) : List Bool :=
  if h : 2 ≤ n then if i < halfN n then dirs i (halfN n) ++ [false] else dirs (i - halfN n) (n - halfN n) ++ [true] else []
termination_by n
decreasing_by
  · exact halfN_lt h
  · have := halfN_pos n; omega
theorem dirs_one {i n : Nat} (h : ¬ 2 ≤ n) : dirs i n = [] := by rw [dirs]; simp [h]
theorem dirs_left {i n : Nat} (h : 2 ≤ n) (hi : i < halfN n) : dirs i n = dirs i (halfN n) ++ [false] := by rw [dirs]; simp [h, hi]
theorem dirs_right {i n : Nat} (h : 2 ≤ n) (hi : ¬ i < halfN n) : dirs i n = dirs (i - halfN n) (n - halfN n) ++ [true] := by rw [dirs]; simp [h, hi]
theorem dirs_eq {i n : Nat} (h : i < n) : dirs i n = itd i (n - 1) := by
  induction n using Nat.strongRecOn generalizing i with
  | _ n ih =>
    by_cases h2 : 2 ≤ n
    · have hlt := halfN_lt h2
      have hle := halfN_le h2
      have hp := halfN_pos n
      by_cases hi : i < halfN n
      · rw [dirs_left h2 hi, ih _ hlt hi]
        unfold halfN at *
        exact (itd_A _ i (n - 1) hi (by omega) (by omega)).symm
      · rw [dirs_right h2 hi, ih _ (by omega) (by omega)]
        unfold halfN at *
        rw [itd_B (Nat.log2 (n - 1)) i (n - 1) (by omega) (by omega) (by omega)]
        congr 2; omega
    · rw [dirs_one h2, show n - 1 = 0 by omega, itd_zero]

/-! ### Going up -/
def cl (h : ByteArray) : List Bool → List ByteArray → Option ByteArray
  | [], [] => some h
  | d :: ds, p :: ps => cl (if d then nodeB p h else nodeB h p) ds ps
  | _, _ => none
theorem cl_append {h h' : ByteArray} : ∀ {ds : List Bool} {ps : List ByteArray}, cl h ds ps = some h' → ∀ (d : Bool) (p : ByteArray), cl h (ds ++ [d]) (ps ++ [p]) = some (if d then nodeB p h' else nodeB h' p)
  | [], [], hh, d, p => by simp [cl] at hh ⊢; rw [hh]
  | [], _ :: _, hh, d, p => by simp [cl] at hh
  | _ :: _, [], hh, d, p => by simp [cl] at hh
  | _ :: ds, _ :: ps, hh, d, p => by
    simp only [List.cons_append, cl] at hh ⊢
    exact cl_append hh d p
theorem path_law (l : List ByteArray) (i : Nat) (h : i < l.length) : cl (leafB l[i]) (dirs i l.length) (pathB l i) = some (treeB l) := by
  induction hn : l.length using Nat.strongRecOn generalizing l i with
  | _ n ih =>
    subst hn
    by_cases h2 : 2 ≤ l.length
    · have hlt := halfN_lt h2
      have hp := halfN_pos l.length
      rw [treeB_two h2]
      by_cases hi : i < halfN l.length
      · have I := ih (halfN l.length) hlt (l.take (halfN l.length)) i (by simp; omega) (by simp; omega)
        rw [List.getElem_take] at I
        rw [dirs_left h2 hi, pathB_left h2 hi, cl_append I]; rfl
      · have I := ih (l.length - halfN l.length) (by omega) (l.drop (halfN l.length)) (i - halfN l.length) (by simp; omega) (by simp)
        rw [List.getElem_drop] at I
        simp only [show halfN l.length + (i - halfN l.length) = i by omega] at I
        rw [dirs_right h2 hi, pathB_right h2 hi, cl_append I]; rfl
    · obtain ⟨x, rfl⟩ : ∃ x, l = [x] := List.length_eq_one_iff.1 (by omega)
      have : i = 0 := by simp at h; exact h
      subst this
      rw [dirs_one (by simp), pathB_one (by simp), treeB_one]; rfl

/-- What is taken of a list at a place, and the place behind it. -/
def tk (l : List ByteArray) (a : Nat) : ByteArray := l.getD a ByteArray.empty
def nx (l : List ByteArray) (a : Nat) : Nat := if a < l.length then a + 1 else a
def stepP (l : List ByteArray) (s : ByteArray × Nat) (d : Bool) : ByteArray × Nat := (if d then nodeA (tk l s.2) s.1 else nodeA s.1 (tk l s.2), nx l s.2)
theorem stepP_empty (l : List ByteArray) (ds : List Bool) : ∀ a, (ds.foldl (stepP l) (ByteArray.empty, a)).1 = ByteArray.empty := by
  induction ds with
  | nil => intro a; rfl
  | cons d ds ih => intro a; rw [List.foldl_cons]; unfold stepP; simp only [nodeA_left, nodeA_right, ite_self]; exact ih _
theorem tk_of {l : List ByteArray} (hl : ∀ x ∈ l, x.size = 32) {a : Nat} (ha : a < l.length) : (tk l a).size = 32 ∧ l.drop a = tk l a :: l.drop (a + 1) := by
  have e : tk l a = l[a] := by unfold tk; simp [List.getElem?_eq_getElem ha]
  rw [e]
  exact ⟨hl _ (List.getElem_mem _), List.drop_eq_getElem_cons ha⟩
theorem tk_out {l : List ByteArray} {a : Nat} (ha : ¬ a < l.length) : tk l a = ByteArray.empty := by
  unfold tk; rw [List.getD_eq_getElem?_getD, List.getElem?_eq_none (by omega)]; rfl
theorem foldP {l : List ByteArray} (hl : ∀ x ∈ l, x.size = 32) {root : ByteArray} (hr : root.size = 32) : ∀ (ds : List Bool) (t : ByteArray) (a : Nat), t.size = 32 → a ≤ l.length →
    (((ds.foldl (stepP l) (t, a)).1 = root ∧ (ds.foldl (stepP l) (t, a)).2 = l.length) ↔ cl t ds (l.drop a) = some root) := by
  intro ds
  induction ds with
  | nil =>
    intro t a ht ha
    simp only [List.foldl_nil]
    by_cases h : a < l.length
    · rw [(tk_of hl h).2]; simp [cl]; omega
    · rw [List.drop_of_length_le (by omega)]; simp [cl]; omega
  | cons d ds ih =>
    intro t a ht ha
    rw [List.foldl_cons]
    by_cases h : a < l.length
    · obtain ⟨h1, h2⟩ := tk_of hl h
      rw [h2]
      have e : stepP l (t, a) d = (if d then nodeB (tk l a) t else nodeB t (tk l a), a + 1) := by
        unfold stepP nx; simp only [nodeA_of h1 ht, nodeA_of ht h1, if_pos h]
      rw [e]
      exact ih _ (a + 1) (by split <;> exact nodeB_size _ _) (by omega)
    · have e : stepP l (t, a) d = (ByteArray.empty, nx l a) := by
        unfold stepP; simp only [tk_out h, nodeA_left, nodeA_right, ite_self]
      rw [e, List.drop_of_length_le (by omega), stepP_empty]
      simp only [cl]
      constructor
      · rintro ⟨h1, _⟩; rw [← h1] at hr; simp at hr
      · intro h1; cases h1

/-! ### Proofs that the first ones are the beginning -/
def pd (m n : Nat) : List Bool :=
  if h : 2 ≤ n ∧ m ≠ n then if m ≤ halfN n then pd m (halfN n) ++ [false] else pd (m - halfN n) (n - halfN n) ++ [true] else []
termination_by n
decreasing_by
  · exact halfN_lt h.1
  · have := halfN_pos n; omega
theorem pd_all (n : Nat) : pd n n = [] := by rw [pd]; simp
theorem pd_left {m n : Nat} (h : 2 ≤ n) (h2 : m ≠ n) (hm : m ≤ halfN n) : pd m n = pd m (halfN n) ++ [false] := by rw [pd]; simp [h, h2, hm]
theorem pd_right {m n : Nat} (h : 2 ≤ n) (h2 : m ≠ n) (hm : ¬ m ≤ halfN n) : pd m n = pd (m - halfN n) (n - halfN n) ++ [true] := by rw [pd]; simp [h, h2, hm]

def sitd (a l : Nat) : List Bool := if a % 2 = 1 then sitd (a / 2) (l / 2) else itd a l
termination_by a
decreasing_by omega
theorem sitd_odd {a l : Nat} (h : a % 2 = 1) : sitd a l = sitd (a / 2) (l / 2) := by rw [sitd]; simp [h]
theorem sitd_even {a l : Nat} (h : a % 2 = 0) : sitd a l = itd a l := by rw [sitd]; simp [h]
theorem sitd_A (m : Nat) : ∀ i last, i < 2 ^ m → 2 ^ m ≤ last → last < 2 * 2 ^ m → sitd i last = sitd i (2 ^ m - 1) ++ [false] := by
  induction m with
  | zero =>
    intro i last h1 h2 h3
    obtain rfl : i = 0 := by omega
    rw [sitd_even (by omega), sitd_even (by omega)]
    exact itd_A 0 0 last h1 h2 h3
  | succ m ih =>
    intro i last h1 h2 h3
    by_cases ho : i % 2 = 1
    · rw [Nat.pow_succ] at h1 h2 h3 ⊢
      have hp : 1 ≤ 2 ^ m := Nat.one_le_two_pow
      rw [sitd_odd ho, sitd_odd (l := 2 ^ m * 2 - 1) ho, ih (i / 2) (last / 2) (by omega) (by omega) (by omega), show (2 ^ m * 2 - 1) / 2 = 2 ^ m - 1 by omega]
    · rw [sitd_even (by omega), sitd_even (by omega)]
      exact itd_A (m + 1) i last h1 h2 h3
theorem sitd_B (m : Nat) : ∀ i last, 2 ^ m ≤ i → i < last → last < 2 * 2 ^ m → sitd i last = sitd (i - 2 ^ m) (last - 2 ^ m) ++ [true] := by
  induction m with
  | zero => intro i last h1 h2 h3; omega
  | succ m ih =>
    intro i last h1 h2 h3
    by_cases ho : i % 2 = 1
    · rw [Nat.pow_succ] at h1 h3 ⊢
      have hp : 1 ≤ 2 ^ m := Nat.one_le_two_pow
      rw [sitd_odd ho, sitd_odd (a := i - 2 ^ m * 2) (by omega), ih (i / 2) (last / 2) (by omega) (by omega) (by omega), show (i - 2 ^ m * 2) / 2 = i / 2 - 2 ^ m by omega, show (last - 2 ^ m * 2) / 2 = last / 2 - 2 ^ m by omega]
    · rw [sitd_even (by omega), sitd_even (a := i - 2 ^ (m + 1)) (by rw [Nat.pow_succ] at h1 ⊢; omega)]
      exact itd_B (m + 1) i last h1 (by omega) h3
theorem pow_sitd (j : Nat) : sitd (2 ^ j - 1) (2 ^ j - 1) = [] := by
  induction j with
  | zero => rw [sitd_even (by omega)]; exact itd_zero _
  | succ j ih =>
    have hp : 1 ≤ 2 ^ j := Nat.one_le_two_pow
    rw [Nat.pow_succ, sitd_odd (by omega), show (2 ^ j * 2 - 1) / 2 = 2 ^ j - 1 by omega]; exact ih
theorem pd_eq {m n : Nat} (h1 : 1 ≤ m) (h : m < n ∨ (m = n ∧ ∃ j, n = 2 ^ j)) : pd m n = sitd (m - 1) (n - 1) := by
  induction n using Nat.strongRecOn generalizing m with
  | _ n ih =>
    rcases h with h | ⟨rfl, j, rfl⟩
    · have h2 : 2 ≤ n := by omega
      have hlt := halfN_lt h2
      have hle := halfN_le h2
      have hp := halfN_pos n
      by_cases hm : m ≤ halfN n
      · rw [pd_left h2 (by omega) hm, ih _ hlt h1 (by rcases Nat.lt_or_ge m (halfN n) with q | q; exact .inl q; exact .inr ⟨by omega, _, rfl⟩)]
        unfold halfN at *
        exact (sitd_A _ (m - 1) (n - 1) (by omega) (by omega) (by omega)).symm
      · rw [pd_right h2 (by omega) hm, ih _ (by omega) (by omega) (.inl (by omega))]
        unfold halfN at *
        rw [sitd_B (Nat.log2 (n - 1)) (m - 1) (n - 1) (by omega) (by omega) (by omega)]
        congr 2 <;> omega
    · rw [pd_all, pow_sitd]
/-- Nothing but ways to the left. -/
def lft (ds : List Bool) : Bool := ds.all (fun d => !d)
theorem lft_false (ds : List Bool) : lft (ds ++ [false]) = lft ds := by simp [lft]
theorem lft_true (ds : List Bool) : lft (ds ++ [true]) = false := by simp [lft]
theorem lft_pd {m n : Nat} (h1 : 1 ≤ m) (h : m < n ∨ (m = n ∧ ∃ j, n = 2 ^ j)) : lft (pd m n) = true ↔ ∃ j, m = 2 ^ j := by
  induction n using Nat.strongRecOn generalizing m with
  | _ n ih =>
    rcases h with h | ⟨rfl, j, rfl⟩
    · have h2 : 2 ≤ n := by omega
      have hlt := halfN_lt h2
      have hle := halfN_le h2
      by_cases hm : m ≤ halfN n
      · rw [pd_left h2 (by omega) hm, lft_false]
        exact ih _ hlt h1 (by rcases Nat.lt_or_ge m (halfN n) with q | q; exact .inl q; exact .inr ⟨by omega, _, rfl⟩)
      · rw [pd_right h2 (by omega) hm, lft_true]
        constructor
        · intro h; cases h
        · rintro ⟨j, rfl⟩
          unfold halfN at hm hle
          have c1 : 2 ^ (Nat.log2 (n - 1)) < 2 ^ j := by omega
          have c2 : 2 ^ j < 2 ^ (Nat.log2 (n - 1) + 1) := by rw [Nat.pow_succ]; omega
          have d1 := (Nat.pow_lt_pow_iff_right (a := 2) (by omega)).1 c1
          have d2 := (Nat.pow_lt_pow_iff_right (a := 2) (by omega)).1 c2
          omega
    · rw [pd_all]; simp [lft]; exact ⟨j, rfl⟩

def cl2 (w r : ByteArray) : List Bool → List ByteArray → Option (ByteArray × ByteArray)
  | [], [] => some (w, r)
  | d :: ds, p :: ps => if d then cl2 (nodeB p w) (nodeB p r) ds ps else cl2 w (nodeB r p) ds ps
  | _, _ => none
theorem cl2_append {w r w' r' : ByteArray} : ∀ {ds : List Bool} {ps : List ByteArray}, cl2 w r ds ps = some (w', r') → ∀ (d : Bool) (p : ByteArray), cl2 w r (ds ++ [d]) (ps ++ [p]) = some (if d then (nodeB p w', nodeB p r') else (w', nodeB r' p)) := by
  intro ds
  induction ds generalizing w r with
  | nil =>
    intro ps hh d p
    match ps, hh with
    | [], hh =>
      simp only [cl2, Option.some.injEq, Prod.mk.injEq] at hh
      obtain ⟨rfl, rfl⟩ := hh
      cases d <;> simp [cl2]
  | cons d0 ds ih =>
    intro ps hh d p
    match ps, hh with
    | p0 :: ps, hh =>
      simp only [List.cons_append, cl2] at hh ⊢
      cases d0
      · simp at hh ⊢; exact ih hh d p
      · simp at hh ⊢; exact ih hh d p
def stepC (l : List ByteArray) (s : ByteArray × ByteArray × Nat) (d : Bool) : ByteArray × ByteArray × Nat :=
  if d then (nodeA (tk l s.2.2) s.1, nodeA (tk l s.2.2) s.2.1, nx l s.2.2) else (s.1, nodeA s.2.1 (tk l s.2.2), nx l s.2.2)
def seedC (l : List ByteArray) (whole : ByteArray) (a : Nat) : ByteArray × ByteArray × Nat := if whole.size = 0 then (tk l a, tk l a, nx l a) else (whole, whole, a)
theorem stepC_empty (l : List ByteArray) (ds : List Bool) : ∀ w a, (ds.foldl (stepC l) (w, ByteArray.empty, a)).2.1 = ByteArray.empty := by
  induction ds with
  | nil => intro w a; rfl
  | cons d ds ih =>
    intro w a; rw [List.foldl_cons]; unfold stepC
    cases d
    · simp only [nodeA_left]; exact ih _ _
    · simp only [if_true, nodeA_right]; exact ih _ _
theorem foldC {l : List ByteArray} (hl : ∀ x ∈ l, x.size = 32) {was root : ByteArray} (hr : root.size = 32) : ∀ (ds : List Bool) (w r : ByteArray) (a : Nat), w.size = 32 → r.size = 32 → a ≤ l.length →
    (((ds.foldl (stepC l) (w, r, a)).1 = was ∧ (ds.foldl (stepC l) (w, r, a)).2.1 = root ∧ (ds.foldl (stepC l) (w, r, a)).2.2 = l.length) ↔ cl2 w r ds (l.drop a) = some (was, root)) := by
  intro ds
  induction ds with
  | nil =>
    intro w r a hw hrr ha
    simp only [List.foldl_nil]
    by_cases h : a < l.length
    · rw [(tk_of hl h).2]; simp [cl2]; omega
    · rw [List.drop_of_length_le (by omega)]; simp [cl2]; omega
  | cons d ds ih =>
    intro w r a hw hrr ha
    rw [List.foldl_cons]
    by_cases h : a < l.length
    · obtain ⟨h1, h2⟩ := tk_of hl h
      rw [h2]
      cases d
      · have e : stepC l (w, r, a) false = (w, nodeB r (tk l a), a + 1) := by
          unfold stepC nx; simp [nodeA_of hrr h1, if_pos h]
        rw [e]
        simpa [cl2] using ih w _ (a + 1) hw (nodeB_size _ _) (by omega)
      · have e : stepC l (w, r, a) true = (nodeB (tk l a) w, nodeB (tk l a) r, a + 1) := by
          unfold stepC nx; simp [nodeA_of h1 hw, nodeA_of h1 hrr, if_pos h]
        rw [e]
        simpa [cl2] using ih _ _ (a + 1) (nodeB_size _ _) (nodeB_size _ _) (by omega)
    · have e : ∃ w', stepC l (w, r, a) d = (w', ByteArray.empty, nx l a) := by
        cases d
        · exact ⟨w, by unfold stepC; simp only [tk_out h, nodeA_right]; rfl⟩
        · exact ⟨_, by unfold stepC; simp only [tk_out h, nodeA_left]; rfl⟩
      obtain ⟨w', e⟩ := e
      rw [e, List.drop_of_length_le (by omega), stepC_empty]
      simp only [cl2]
      constructor
      · rintro ⟨_, h1, _⟩; rw [← h1] at hr; simp at hr
      · intro h1; cases h1

/-- The proof of the first m of a list leads to both trees, whole or not. -/
theorem proof_law (l : List ByteArray) (m : Nat) (h1 : 1 ≤ m) (h : m ≤ l.length) (whole : Bool) :
    ∃ s ps, (if whole && lft (pd m l.length) then s = treeB (l.take m) ∧ proofB m l whole = ps else proofB m l whole = s :: ps) ∧ cl2 s s (pd m l.length) ps = some (treeB (l.take m), treeB l) := by
  induction hn : l.length using Nat.strongRecOn generalizing l m whole with
  | _ n ih =>
    subst hn
    by_cases he : m = l.length
    · subst he
      rw [proofB_all rfl, pd_all, List.take_of_length_le (Nat.le_refl _)]
      refine ⟨treeB l, [], ?_, rfl⟩
      cases whole <;> simp [lft]
    · have h2 : 2 ≤ l.length := by omega
      have hlt := halfN_lt h2
      have hp := halfN_pos l.length
      by_cases hm : m ≤ halfN l.length
      · obtain ⟨s, ps, hA, hB⟩ := ih (halfN l.length) hlt (l.take (halfN l.length)) m h1 (by simp; omega) whole (by simp; omega)
        refine ⟨s, ps ++ [treeB (l.drop (halfN l.length))], ?_, ?_⟩
        · rw [proofB_left h2 he hm, pd_left h2 he hm, lft_false]
          rw [List.take_take, Nat.min_eq_left hm] at hA
          split at hA
          · rename_i hc; rw [if_pos hc]; exact ⟨hA.1, by rw [hA.2]⟩
          · rename_i hc; rw [if_neg hc, hA]; rfl
        · rw [pd_left h2 he hm, cl2_append hB, treeB_two h2, List.take_take, Nat.min_eq_left hm]; rfl
      · obtain ⟨s, ps, hA, hB⟩ := ih (l.length - halfN l.length) (by omega) (l.drop (halfN l.length)) (m - halfN l.length) (by omega) (by simp; omega) false (by simp)
        refine ⟨s, ps ++ [treeB (l.take (halfN l.length))], ?_, ?_⟩
        · rw [proofB_right h2 he hm, pd_right h2 he hm, lft_true]
          simp at hA ⊢; rw [hA]; rfl
        · rw [pd_right h2 he hm, cl2_append hB]
          have e1 : treeB (l.take m) = nodeB (treeB (l.take (halfN l.length))) (treeB ((l.drop (halfN l.length)).take (m - halfN l.length))) := by
            have hl : (l.take m).length = m := by simp; omega
            have hh : halfN m = halfN l.length := by
              have a := halfN_le h2
              unfold halfN at hm a ⊢
              exact halfN_unique (by omega) (by omega)
            rw [treeB_two (by omega), hl, hh, List.take_take, Nat.min_eq_left (by omega), List.drop_take]
          rw [e1, ← treeB_two h2]; rfl
end Go.Proofs.YtonleickhincgaaGreatDoor
/-
  Slices of texts that are only read: what areDigests, entriesRight and l03Entries answer.
  Conditions: the slice's cells hold those texts; it is at most 2^47 long.
-/
namespace Go.Proofs.YtonleickhincgaaGreatDoor
open Go.RowKit Go.Lib
set_option linter.unusedVariables false

/-- The cells that a slice of texts leads to hold these texts (of none nothing is asked: also nil). -/
def TxtAt (w : World) (p : Option Addr) (ss : List ByteArray) : Prop :=
  ∀ i (h : i < ss.length), ∃ b off, p = some ⟨b, off, none⟩ ∧ b < w.heap.size ∧ w.cell? ⟨b, off + i, none⟩ = some (.string ss[i])
theorem TxtAt.below {w w' : World} {p : Option Addr} {ss : List ByteArray} (h : TxtAt w p ss) (hb : Below w.heap.size w w') : TxtAt w' p ss := by
  intro i hi
  obtain ⟨b, off, rfl, h1, h2⟩ := h i hi
  exact ⟨b, off, rfl, Nat.lt_of_lt_of_le h1 hb.size, (hb.cell (p := ⟨b, off + i, none⟩) h1).trans h2⟩
theorem TxtAt.nil (w : World) (p : Option Addr) : TxtAt w p [] := fun i h => by simp at h
theorem TxtAt.take {w : World} {p : Option Addr} {ss : List ByteArray} (h : TxtAt w p ss) (k : Nat) : TxtAt w p (ss.take k) := by
  intro i hi
  obtain ⟨b, off, h0, h1, h2⟩ := h i (by simp at hi; omega)
  exact ⟨b, off, h0, h1, by rw [h2, List.getElem_take]⟩
theorem TxtAt.drop {w : World} {b off : Nat} {ss : List ByteArray} (h : TxtAt w (some ⟨b, off, none⟩) ss) (k : Nat) : TxtAt w (some ⟨b, off + k, none⟩) (ss.drop k) := by
  intro i hi
  obtain ⟨b', off', h0, h1, h2⟩ := h (k + i) (by simp at hi; omega)
  cases h0
  exact ⟨b, off + k, rfl, h1, by rw [List.getElem_drop, ← h2, Nat.add_assoc]⟩
theorem TxtAt.at {w : World} {b off : Nat} {ss : List ByteArray} (h : TxtAt w (some ⟨b, off, none⟩) ss) (i : Nat) (hi : i < ss.length) : w.cell? ⟨b, off + i, none⟩ = some (.string ss[i]) := by
  obtain ⟨b', off', h0, h1, h2⟩ := h i hi
  cases h0; exact h2

theorem chainB {w w1 w2 : World} (b1 : Below w.heap.size w w1) (b2 : Below w1.heap.size w1 w2) : Below w.heap.size w w2 := b1.trans (b2.mono b1.size)
def wideB (ss : List ByteArray) : Bool := ss.all fun x => x.size == 32
def entB (ss : List ByteArray) : Bool := decide (ss.length ≤ 64) && ss.all fun x => decide (x.size ≤ 100)
theorem wideB_true {ss : List ByteArray} (h : ∀ j (h : j < ss.length), ss[j].size = 32) : wideB ss = true := by
  unfold wideB; rw [List.all_eq_true]; intro x hx
  obtain ⟨j, hj, rfl⟩ := List.getElem_of_mem hx
  simpa using h j hj
theorem wideB_false {ss : List ByteArray} {k : Nat} (hk : k < ss.length) (h : ss[k].size ≠ 32) : wideB ss = false := by
  unfold wideB; rw [List.all_eq_false]; exact ⟨_, List.getElem_mem hk, by simpa using h⟩
theorem wideB_all {ss : List ByteArray} (h : wideB ss = true) : ∀ x ∈ ss, x.size = 32 := by
  unfold wideB at h; rw [List.all_eq_true] at h; intro x hx; simpa using h x hx
theorem entB_true {ss : List ByteArray} (hl : ss.length ≤ 64) (h : ∀ j (h : j < ss.length), ss[j].size ≤ 100) : entB ss = true := by
  unfold entB; rw [Bool.and_eq_true, List.all_eq_true]; refine ⟨by simpa using hl, fun x hx => ?_⟩
  obtain ⟨j, hj, rfl⟩ := List.getElem_of_mem hx
  simpa using h j hj
theorem entB_false {ss : List ByteArray} {k : Nat} (hk : k < ss.length) (h : ¬ ss[k].size ≤ 100) : entB ss = false := by
  unfold entB; rw [Bool.and_eq_false_iff]; right; rw [List.all_eq_false]; exact ⟨_, List.getElem_mem hk, by simpa using h⟩
theorem entB_long {ss : List ByteArray} (h : ¬ ss.length ≤ 64) : entB ss = false := by
  unfold entB; rw [Bool.and_eq_false_iff]; left; simpa using h
theorem entB_len {ss : List ByteArray} (h : entB ss = true) : ss.length ≤ 64 := by
  unfold entB at h; rw [Bool.and_eq_true] at h; simpa using h.1
theorem entB_all {ss : List ByteArray} (h : entB ss = true) : ∀ x ∈ ss, x.size ≤ 100 := by
  unfold entB at h; rw [Bool.and_eq_true, List.all_eq_true] at h; intro x hx; simpa using h.2 x hx
theorem ret_bool {a b : Bool} (h : a = b) : Ending.returned (.bool a) = .returned (.bool b) := by rw [h]

set_option maxHeartbeats 400000 in
theorem areD_any (p : Option Addr) (cap : Nat) (ss : List ByteArray) (w : World) (hp : TxtAt w p ss) (hn : ss.length ≤ 140737488355328) (hcap : ss.length ≤ cap) :
    Calls Tryz.prog 46 #[.slice p ss.length cap] w fun e w' => e = .returned (.bool (wideB ss)) ∧ w' = w := by
  have HP : Hid (TxtAt w p ss) := hp
  clear hp
  go_enter Tryz.func46, Tryz.ntmps46
  go_wp2
  go_loop [7] (fun i => ∃ k : Nat, k ≤ ss.length ∧ i = .int .i64 k ∧ Hid (∀ j (h : j < ss.length), j < k → ss[j].size = 32)) (fun i => ss.length - (Go.RowKit.intOf i).toNat)
  case atStart => exact ⟨0, Nat.zero_le _, rfl, fun j h hk => by omega⟩
  case round =>
    obtain ⟨k, hk, rfl, HK⟩ := hrel
    by_cases hlt : k < ss.length
    · obtain ⟨b, off, rfl, hb, hck⟩ := HP.out k hlt
      by_cases h32 : ss[k].size = 32
      · have HK2 : Hid (∀ j (h : j < ss.length), j < k + 1 → ss[j].size = 32) := fun j h hj => if he : j = k then by subst he; exact h32 else HK.out j h (by omega)
        generalize ss[k] = q at *
        have h33 : (q.size : Int) = 32 := by omega
        go_wp2
        go_round
        case rel => exact ⟨k + 1, by omega, by go_num, HK2⟩
        case measure => simp [Go.RowKit.intOf]; omega
      · have HF : Hid (wideB ss = false) := wideB_false hlt h32
        generalize ss[k] = q at *
        have h33 : ¬ (q.size : Int) = 32 := by omega
        go_wp2
        go_ret
        exact ⟨ret_bool HF.out.symm, rfl⟩
    · have HF : Hid (wideB ss = true) := wideB_true fun j h => HK.out j h (by omega)
      go_wp2
      go_ret
      exact ⟨ret_bool HF.out.symm, rfl⟩

set_option maxHeartbeats 400000 in
theorem entR_any (p : Option Addr) (cap : Nat) (ss : List ByteArray) (w : World) (hp : TxtAt w p ss) (hn : ss.length ≤ 140737488355328) (hcap : ss.length ≤ cap) :
    Calls Tryz.prog 155 #[.slice p ss.length cap] w fun e w' => e = .returned (.bool (entB ss)) ∧ w' = w := by
  have HP : Hid (TxtAt w p ss) := hp
  clear hp
  by_cases hl : ss.length ≤ 64
  · go_enter Tryz.func155, Tryz.ntmps155
    go_wp2
    go_loop [10] (fun i => ∃ k : Nat, k ≤ ss.length ∧ i = .int .i64 k ∧ Hid (∀ j (h : j < ss.length), j < k → ss[j].size ≤ 100)) (fun i => ss.length - (Go.RowKit.intOf i).toNat)
    case atStart => exact ⟨0, Nat.zero_le _, rfl, fun j h hk => by omega⟩
    case round =>
      obtain ⟨k, hk, rfl, HK⟩ := hrel
      by_cases hlt : k < ss.length
      · obtain ⟨b, off, rfl, hb, hck⟩ := HP.out k hlt
        by_cases h32 : ss[k].size ≤ 100
        · have HK2 : Hid (∀ j (h : j < ss.length), j < k + 1 → ss[j].size ≤ 100) := fun j h hj => if he : j = k then by subst he; exact h32 else HK.out j h (by omega)
          generalize ss[k] = q at *
          have h33 : (q.size : Int) ≤ 100 := by omega
          go_wp2
          go_round
          case rel => exact ⟨k + 1, by omega, by go_num, HK2⟩
          case measure => simp [Go.RowKit.intOf]; omega
        · have HF : Hid (entB ss = false) := entB_false hlt h32
          generalize ss[k] = q at *
          have h33 : ¬ (q.size : Int) ≤ 100 := by omega
          go_wp2
          go_ret
          exact ⟨ret_bool HF.out.symm, rfl⟩
      · have HF : Hid (entB ss = true) := entB_true hl fun j h => HK.out j h (by omega)
        go_wp2
        go_ret
        exact ⟨ret_bool HF.out.symm, rfl⟩
  · have HF : Hid (entB ss = false) := entB_long hl
    go_enter Tryz.func155, Tryz.ntmps155
    go_wp2
    go_ret
    exact ⟨ret_bool HF.out.symm, rfl⟩

set_option maxHeartbeats 400000 in
theorem ent2_any (p : Option Addr) (cap : Nat) (ss : List ByteArray) (w : World) (hp : TxtAt w p ss) (hn : ss.length ≤ 140737488355328) (hcap : ss.length ≤ cap) :
    Calls Tryz.prog 125 #[.slice p ss.length cap] w fun e w' => e = .returned (.bool (entB ss)) ∧ w' = w := by
  have HP : Hid (TxtAt w p ss) := hp
  clear hp
  go_enter Tryz.func125, Tryz.ntmps125
  go_wp2
  go_loop [3] (fun i => ∃ k : Nat, k ≤ ss.length ∧ i = .int .i64 k ∧ Hid (∀ j (h : j < ss.length), j < k → ss[j].size ≤ 100)) (fun i => ss.length - (Go.RowKit.intOf i).toNat)
  case atStart => exact ⟨0, Nat.zero_le _, rfl, fun j h hk => by omega⟩
  case round =>
    obtain ⟨k, hk, rfl, HK⟩ := hrel
    by_cases hlt : k < ss.length
    · obtain ⟨b, off, rfl, hb, hck⟩ := HP.out k hlt
      by_cases h32 : ss[k].size ≤ 100
      · have HK2 : Hid (∀ j (h : j < ss.length), j < k + 1 → ss[j].size ≤ 100) := fun j h hj => if he : j = k then by subst he; exact h32 else HK.out j h (by omega)
        generalize ss[k] = q at *
        have h33 : (q.size : Int) ≤ 100 := by omega
        go_wp2
        go_round
        case rel => exact ⟨k + 1, by omega, by go_num, HK2⟩
        case measure => simp [Go.RowKit.intOf]; omega
      · have HF : Hid (entB ss = false) := entB_false hlt h32
        generalize ss[k] = q at *
        have h33 : ¬ (q.size : Int) ≤ 100 := by omega
        go_wp2
        go_ret
        exact ⟨ret_bool HF.out.symm, rfl⟩
    · by_cases hl : ss.length ≤ 64
      · have HF : Hid (entB ss = true) := entB_true hl fun j h => HK.out j h (by omega)
        go_wp2
        go_ret
        exact ⟨ret_bool ((decide_eq_true (by omega)).trans HF.out.symm), rfl⟩
      · have HF : Hid (entB ss = false) := entB_long hl
        go_wp2
        go_ret
        exact ⟨ret_bool ((decide_eq_false (by omega)).trans HF.out.symm), rfl⟩
end Go.Proofs.YtonleickhincgaaGreatDoor
/-
  Boxes: what a block of a struct's cells holds, behind stores and new memory; what stays below.
-/
namespace Go.Proofs.YtonleickhincgaaGreatDoor
open Go.RowKit Go.Lib
set_option linter.unusedVariables false

theorem below_none {w w' : World} (h : w.grownBy w' none) : Below w.heap.size w w' := ⟨h.os, h.tape, h.output, h.size, fun g hg => h.block g hg (by simp)⟩
theorem szA (w : World) (o : Obj) : (w.alloc o).heap.size = w.heap.size + 1 := by simp
theorem szD (w : World) : w.drew.heap.size = w.heap.size := rfl
theorem alB {W X : World} (h : Below W.heap.size W X) (o : Obj) : Below W.heap.size W (X.alloc o) := h.alloc h.size o
/-- What a box holds. -/
def Bxs (w : World) (g : Nat) (T : TypeId) (cs : Array Value) : Prop := w.heap[g]? = some (.cells cs T (0, 0))
theorem Bxs.lt {w : World} {g : Nat} {T : TypeId} {cs : Array Value} (h : Bxs w g T cs) : g < w.heap.size := lt_of_block h
theorem Bxs.new (w : World) (T : TypeId) (cs : Array Value) : Bxs (w.alloc (.cells cs T)) w.heap.size T cs := (MapKept.heap_alloc w _).1
theorem Bxs.below {w w' : World} {g : Nat} {T : TypeId} {cs : Array Value} (h : Bxs w g T cs) (hb : Below w.heap.size w w') : Bxs w' g T cs := (hb.block g h.lt).trans h
theorem Bxs.alloc {w : World} {g : Nat} {T : TypeId} {cs : Array Value} (h : Bxs w g T cs) (o : Obj) : Bxs (w.alloc o) g T cs := h.below ((Below.refl _ _).alloc (Nat.le_refl _) o)
theorem Bxs.cell {w : World} {g : Nat} {T : TypeId} {cs : Array Value} (h : Bxs w g T cs) (i : Nat) : w.cell? ⟨g, i, none⟩ = cs[i]? := by
  unfold Bxs at h
  cases hc : cs[i]? <;> simp [World.cell?, h, hc]
theorem Bxs.fr {w : World} {g : Nat} {T : TypeId} {cs : Array Value} (h : Bxs w g T cs) (i : Nat) : w.frozen? ⟨g, i, none⟩ = false := by
  unfold Bxs at h
  simp [World.frozen?, h]
theorem Bxs.set {w : World} {g : Nat} {T : TypeId} {cs : Array Value} (h : Bxs w g T cs) (i : Nat) (v : Value) : Bxs (w.setCell ⟨g, i, none⟩ v) g T (cs.setIfInBounds i v) := by
  unfold Bxs at h ⊢
  simp [World.setCell, Array.getElem?_modify, h]
theorem Bxs.other {w : World} {g : Nat} {T : TypeId} {cs : Array Value} (h : Bxs w g T cs) (g' i : Nat) (hne : g' ≠ g) (v : Value) : Bxs (w.setCell ⟨g', i, none⟩ v) g T cs := by
  unfold Bxs at h ⊢
  rw [show (w.setCell ⟨g', i, none⟩ v).heap[g]? = w.heap[g]? by simp [World.setCell, Array.getElem?_modify, hne]]
  exact h

theorem Bxs.grown {w w' : World} {g : Nat} {T : TypeId} {cs : Array Value} (h : Bxs w g T cs) {row : Option Nat} (hg : w.grownBy w' row) (hne : some g ≠ row) : Bxs w' g T cs := (hg.block g h.lt hne).trans h
theorem Bxs.two {w : World} {g : Nat} {T : TypeId} {a b : Value} (h : Bxs w g T #[a, b]) : w.cell? ⟨g, 0, none⟩ = some a ∧ w.cell? ⟨g, 1, none⟩ = some b := ⟨h.cell 0, h.cell 1⟩
theorem Bxs.four {w : World} {g : Nat} {T : TypeId} {a b c d : Value} (h : Bxs w g T #[a, b, c, d]) : w.cell? ⟨g, 0, none⟩ = some a ∧ w.cell? ⟨g, 1, none⟩ = some b ∧ w.cell? ⟨g, 2, none⟩ = some c ∧ w.cell? ⟨g, 3, none⟩ = some d := ⟨h.cell 0, h.cell 1, h.cell 2, h.cell 3⟩
theorem Bxs.five {w : World} {g : Nat} {T : TypeId} {a b c d e : Value} (h : Bxs w g T #[a, b, c, d, e]) : w.cell? ⟨g, 0, none⟩ = some a ∧ w.cell? ⟨g, 1, none⟩ = some b ∧ w.cell? ⟨g, 2, none⟩ = some c ∧ w.cell? ⟨g, 3, none⟩ = some d ∧ w.cell? ⟨g, 4, none⟩ = some e := ⟨h.cell 0, h.cell 1, h.cell 2, h.cell 3, h.cell 4⟩
theorem below_set2 {B : Nat} {a w : World} (h : Below B a w) {g : Nat} (hg : B ≤ g) (x0 x1 : Value) : Below B a ((w.setCell ⟨g, 0, none⟩ x0).setCell ⟨g, 1, none⟩ x1) := (h.setCell hg _).setCell hg _
theorem below_set3 {B : Nat} {a w : World} (h : Below B a w) {g : Nat} (hg : B ≤ g) (x0 x1 x2 : Value) : Below B a (((w.setCell ⟨g, 0, none⟩ x0).setCell ⟨g, 1, none⟩ x1).setCell ⟨g, 2, none⟩ x2) := ((h.setCell hg _).setCell hg _).setCell hg _
theorem below_set4 {B : Nat} {a w : World} (h : Below B a w) {g : Nat} (hg : B ≤ g) (x0 x1 x2 x3 : Value) : Below B a ((((w.setCell ⟨g, 0, none⟩ x0).setCell ⟨g, 1, none⟩ x1).setCell ⟨g, 2, none⟩ x2).setCell ⟨g, 3, none⟩ x3) := (((h.setCell hg _).setCell hg _).setCell hg _).setCell hg _
theorem below_set5 {B : Nat} {a w : World} (h : Below B a w) {g : Nat} (hg : B ≤ g) (x0 x1 x2 x3 x4 : Value) : Below B a (((((w.setCell ⟨g, 0, none⟩ x0).setCell ⟨g, 1, none⟩ x1).setCell ⟨g, 2, none⟩ x2).setCell ⟨g, 3, none⟩ x3).setCell ⟨g, 4, none⟩ x4) := (below_set4 h hg x0 x1 x2 x3).setCell hg _
end Go.Proofs.YtonleickhincgaaGreatDoor
/-
  A block that holds texts (BlkS), made and written; nothing here speaks of a function of the program.
-/
namespace Go.Proofs.YtonleickhincgaaGreatDoor
open Go.RowKit Go.Lib
set_option linter.unusedVariables false

def strRow (l : List ByteArray) : List Value := l.map Value.string
/-- A block that holds these texts and no more; nothing of it is frozen. -/
def BlkS (w : World) (g : Nat) (l : List ByteArray) : Prop := w.heap[g]? = some (.cells (strRow l).toArray 9 (0, 0))
theorem BlkS.lt {w : World} {g : Nat} {l : List ByteArray} (h : BlkS w g l) : g < w.heap.size := by
  rcases Nat.lt_or_ge g w.heap.size with q | q
  · exact q
  · unfold BlkS at h; rw [Array.getElem?_eq_none q] at h; cases h
theorem BlkS.cell {w : World} {g : Nat} {l : List ByteArray} (h : BlkS w g l) (i : Nat) (hi : i < l.length) : w.cell? ⟨g, i, none⟩ = some (.string l[i]) ∧ w.frozen? ⟨g, i, none⟩ = false := by
  unfold BlkS at h
  constructor
  · simp [World.cell?, h, strRow, hi]
  · simp [World.frozen?, h]
theorem BlkS.txt {w : World} {g : Nat} {l : List ByteArray} (h : BlkS w g l) : TxtAt w (some ⟨g, 0, none⟩) l := fun i hi => ⟨g, 0, rfl, h.lt, by rw [Nat.zero_add]; exact (h.cell i hi).1⟩
theorem BlkS.below {w w' : World} {g : Nat} {l : List ByteArray} (h : BlkS w g l) {B : Nat} (hb : Below B w w') (hg : g < B) : BlkS w' g l := (hb.block g hg).trans h
theorem BlkS.set {w : World} {g : Nat} {l : List ByteArray} (h : BlkS w g l) (k : Nat) (s : ByteArray) : BlkS (w.setCell ⟨g, k, none⟩ (.string s)) g (l.set k s) := by
  unfold BlkS at h ⊢
  simp [World.setCell, Array.getElem?_modify, h, strRow, List.map_set]
theorem BlkS.setOther {w : World} {g : Nat} {l : List ByteArray} (h : BlkS w g l) (g' k : Nat) (hne : g' ≠ g) (v : Value) : BlkS (w.setCell ⟨g', k, none⟩ v) g l := by
  unfold BlkS at h ⊢
  have : (w.setCell ⟨g', k, none⟩ v).heap[g]? = w.heap[g]? := by simp [World.setCell, Array.getElem?_modify, hne]
  rw [this, h]
theorem BlkS.own {w : World} {g : Nat} {l : List ByteArray} (h : BlkS w g l) (base : Nat) (hb : base ≤ g) (hm : l.length ≤ maxLen) : w.ownsRow base 9 1 (.slice (some ⟨g, 0, none⟩) l.length l.length) l.length (strRow l) :=
  ⟨by simp [strRow], .inr ⟨g, l.length, (strRow l).toArray, rfl, hb, h, Nat.le_refl _, hm, by simp [strRow], by rw [Nat.mul_one]; exact List.take_of_length_le (by simp [strRow])⟩⟩

theorem infoStr : (Tryz.prog.info? 9).map (fun i => (i.zero, i.size, i.bytes)) = some (some (.string ByteArray.empty), 1, 16) := by kernel_rfl
theorem made_str (n : Nat) : madeCells #[.string ByteArray.empty] n = (strRow (List.replicate n ByteArray.empty)).toArray := by
  unfold madeCells strRow
  apply Array.ext
  · simp
  · intro i h1 h2; simp [Nat.mod_one]
theorem run_make_str (n : Nat) (hn : n ≤ 1048576) (w : World) :
    (Instr.makeSlice 25 (.int .i64 (n : Int)) (.int .i64 (n : Int))).run Tryz.prog w = .ok (.slice (some ⟨w.heap.size, 0, none⟩) n n) (w.alloc (.cells (strRow (List.replicate n ByteArray.empty)).toArray 9)) := by
  obtain ⟨i0, hi, hz0, hz1, hz2⟩ := info_parts infoStr
  have := run_make (P := Tryz.prog) w 25 9 i0 (.string ByteArray.empty) Tryz.underlying25 hi hz0 .i64 .i64 (n : Int) (n : Int) (by omega) (by omega) (by rw [hz2]; omega) (by omega)
  rw [this, hz1]
  simp only [Int.toNat_natCast, Nat.mul_one]
  rw [← made_str]; rfl

theorem alloc_str (w : World) (l : List ByteArray) : BlkS (w.alloc (.cells (strRow l).toArray 9)) w.heap.size l := by
  exact (MapKept.heap_alloc w _).1

theorem toList_inj {x y : ByteArray} (h : x.toList = y.toList) : x = y := by rw [ByteArray.toList_eq, ByteArray.toList_eq] at h; exact ByteArray.ext (Array.toList_inj.1 h)
end Go.Proofs.YtonleickhincgaaGreatDoor
/-
  Rows of texts that a call owns: carried over what turns nothing that was there.
-/
namespace Go.Proofs.YtonleickhincgaaGreatDoor
open Go.RowKit Go.Lib
set_option linter.unusedVariables false

theorem ownS_below {w w' : World} {base : Nat} {e : TypeId} {s : Nat} {v : Value} {n : Nat} {xs : List Value} (h : w.ownsRow base e s v n xs) (hb : Below w.heap.size w w') : w'.ownsRow base e s v n xs := by
  refine ⟨h.1, ?_⟩
  rcases h.2 with h0 | ⟨g, cap, cur, h1, h2, h3, h4⟩
  · exact .inl h0
  · exact .inr ⟨g, cap, cur, h1, h2, (hb.block g (lt_of_block h3)).trans h3, h4⟩
theorem ownS_mono {w : World} {base base' : Nat} {e : TypeId} {s : Nat} {v : Value} {n : Nat} {xs : List Value} (h : w.ownsRow base e s v n xs) (hb : base' ≤ base) : w.ownsRow base' e s v n xs := by
  refine ⟨h.1, ?_⟩
  rcases h.2 with h0 | ⟨g, cap, cur, h1, h2, h3⟩
  · exact .inl h0
  · exact .inr ⟨g, cap, cur, h1, Nat.le_trans hb h2, h3⟩
theorem ownS_none (w : World) : (w.alloc (.cells #[] 9)).ownsRow w.heap.size 9 1 (.slice (some ⟨w.heap.size, 0, none⟩) 0 0) ([] : List ByteArray).length (strRow []) :=
  World.ownsRow_made w #[] 0 (Nat.le_refl _) (by unfold maxLen; omega) rfl
theorem alloc_own (w : World) (T : ByteArray) : (w.alloc (.cells #[.string T] 9)).ownsRow w.heap.size 9 1 (.slice (some ⟨w.heap.size, 0, none⟩) 1 1) [T].length (strRow [T]) :=
  (alloc_str w [T]).own w.heap.size (Nat.le_refl _) (by unfold maxLen; simp)
/-- What a value that owns a row of texts is, for a walk that reads it. -/
theorem ownS_form {w : World} {base : Nat} {v : Value} {l : List ByteArray} (h : w.ownsRow base 9 1 v l.length (strRow l)) : ∃ p cap, v = .slice p l.length cap ∧ l.length ≤ cap ∧ TxtAt w p l := by
  rcases h.2 with ⟨rfl, h0⟩ | ⟨g, cap, cur, rfl, h2, h3, h4, h5, h6, h7⟩
  · have hl : l = [] := List.length_eq_zero_iff.1 h0
    subst hl
    exact ⟨none, 0, rfl, Nat.le_refl _, TxtAt.nil _ _⟩
  · refine ⟨some ⟨g, 0, none⟩, cap, rfl, h4, fun i hi => ⟨g, 0, rfl, lt_of_block h3, ?_⟩⟩
    have h8 : (cur.toList.take (l.length * 1))[i]? = some (.string l[i]) := by rw [h7]; simp [strRow, hi]
    rw [List.getElem?_take_of_lt (by omega)] at h8
    rw [Nat.zero_add]
    simpa [World.cell?, h3] using h8
theorem ownS_block {w : World} {base : Nat} {e : TypeId} {s : Nat} {v : Value} {n : Nat} {xs : List Value} (h : w.ownsRow base e s v n xs) {g : Nat} (hg : v.ownBlock = some g) : g < w.heap.size := (h.lt g hg).2
end Go.Proofs.YtonleickhincgaaGreatDoor
