/-
  Signatures as plain functions: steps, keys, digits, what is signed and what is verified; what is signed is verified under the seed's root (P6).
-/
import Derived.Test.YtfdihkgkiiekcaaDoorBytesDigMath
import Derived.Test.YtfdihkgkiiekcaaDoorMacMathPutMathSgnB
import Derived.Test.YtfdihkgkiiekcaaDoorTreeMath
import Derived.Test.YtfdihkgkiiekcaaDoorSlASlBBxK
import Derived.Test.YtfdihkgkiiekcaaDoorPowerHalvesTreeTree2TreeHPathMathIncMath
import Derived.Test.YtfdihkgkiiekcaaDoorConMathProofLaw
namespace Go.Proofs.YtfdihkgkiiekcaaDoor
open Go.RowKit Go.Lib
set_option linter.unusedVariables false

def stepsB : Nat → ByteArray → ByteArray
  | 0, t => t
  | n + 1, t => stepsB n (digB t)
theorem stepsB_add (a b : Nat) : ∀ t, stepsB (a + b) t = stepsB b (stepsB a t) := by
  induction a with
  | zero => intro t; rw [Nat.zero_add]; rfl
  | succ a ih => intro t; rw [show a + 1 + b = (a + b) + 1 by omega]; exact ih (digB t)
theorem stepsB_size (n : Nat) : ∀ t : ByteArray, t.size = 32 → (stepsB n t).size = 32 := by
  induction n with
  | zero => intro t h; exact h
  | succ n ih => intro t h; exact ih _ (digB_size t)
theorem putI_le (f : Nat) : ∀ u, (putI f u).length ≤ f + 1 := by
  induction f with
  | zero => intro u; simp [putI]
  | succ f ih =>
    intro u
    have := ih (u / 128)
    unfold putI; split <;> simp <;> omega
theorem putB_le (i : Int) : (putB i).size ≤ 10 := by
  unfold putB; rw [strOfNums_size]; exact putI_le 9 _
theorem putB2_size (i j : Int) : (putB i ++ putB j).size ≤ 20 := by
  have h1 := putI_le 9 (foldN i)
  have h2 := putI_le 9 (foldN j)
  rw [ByteArray.size_append]
  unfold putB
  rw [strOfNums_size, strOfNums_size]; omega
def begB (seed : ByteArray) (i j : Int) : ByteArray := macB seed (putB i ++ putB j)
theorem begB_size (seed : ByteArray) (i j : Int) : (begB seed i j).size = 32 := digB_size _
def catB (f : Nat → ByteArray) : Nat → ByteArray
  | 0 => ByteArray.empty
  | n + 1 => catB f n ++ f n
theorem catB_size (f : Nat → ByteArray) (n : Nat) (h : ∀ j, j < n → (f j).size = 32) : (catB f n).size = 32 * n := by
  induction n with
  | zero => rfl
  | succ n ih =>
    show (catB f n ++ f n).size = _
    rw [ByteArray.size_append, ih (fun j hj => h j (by omega)), h n (by omega)]; omega
theorem catB_congr (f g : Nat → ByteArray) (n : Nat) (h : ∀ j, j < n → f j = g j) : catB f n = catB g n := by
  induction n with
  | zero => rfl
  | succ n ih =>
    show catB f n ++ f n = catB g n ++ g n
    rw [ih (fun j hj => h j (by omega)), h n (by omega)]
/-- Chain j of key i, behind all its steps. -/
def topB (seed : ByteArray) (i : Int) (j : Nat) : ByteArray := stepsB 15 (begB seed i j)
theorem topB_size (seed : ByteArray) (i : Int) (j : Nat) : (topB seed i j).size = 32 := stepsB_size _ _ (begB_size _ _ _)
def pubB (seed : ByteArray) (i : Nat) : ByteArray := digB (catB (topB seed i) 6)
theorem pubB_size (seed : ByteArray) (i : Nat) : (pubB seed i).size = 32 := digB_size _
def pubsTo (seed : ByteArray) (k : Nat) : List ByteArray := (List.range k).map (pubB seed)
def pubsB (seed : ByteArray) : List ByteArray := pubsTo seed 4
theorem pubsTo_step (seed : ByteArray) (k : Nat) : pubsTo seed (k + 1) = pubsTo seed k ++ [pubB seed k] := by simp [pubsTo, List.range_succ]
theorem pubsTo_len (seed : ByteArray) (k : Nat) : (pubsTo seed k).length = k := by simp [pubsTo]
theorem pubsTo_wide (seed : ByteArray) (k : Nat) : ∀ x ∈ pubsTo seed k, x.size = 32 := by
  intro x hx
  obtain ⟨i, _, rfl⟩ := List.mem_map.1 hx
  exact pubB_size _ _
theorem pubsB_ent (seed : ByteArray) : entB (pubsB seed) = true := by
  refine entB_true (by rw [pubsB, pubsTo_len]; omega) (fun j h => ?_)
  rw [pubsTo_wide seed 4 _ (List.getElem_mem h)]; omega
def seedB (seed : ByteArray) : Bool := decide (1 ≤ seed.size ∧ seed.size ≤ 64)
def rootA (seed : ByteArray) : ByteArray := if seedB seed = true then treeB (pubsB seed) else ByteArray.empty

/-- The digits of a text. -/
def digsI (t : ByteArray) : List Int :=
  let a := byteAt (digB t) 0
  let b := byteAt (digB t) 1
  let r := 60 - a / 16 - a % 16 - b / 16 - b % 16
  [a / 16, a % 16, b / 16, b % 16, r / 16, r % 16]
def dg (t : ByteArray) (j : Nat) : Int := (digsI t).getD j 0
theorem dg_bd (t : ByteArray) (j : Nat) (hj : j < 6) : 0 ≤ dg t j ∧ dg t j ≤ 15 := by
  have h0 := byteAt_bd (digB t) 0
  have h1 := byteAt_bd (digB t) 1
  unfold dg digsI
  generalize byteAt (digB t) 0 = a at *
  generalize byteAt (digB t) 1 = b at *
  match j, hj with
  | 0, _ => simp; omega
  | 1, _ => simp; omega
  | 2, _ => simp; omega
  | 3, _ => simp; omega
  | 4, _ => simp; omega
  | 5, _ => simp; omega
  | j + 6, h => omega
theorem digsI_len (t : ByteArray) : (digsI t).length = 6 := rfl

/-- What Ends hold of the first k chains. -/
def endsTo (seed : ByteArray) (key : Int) (text : ByteArray) (k : Nat) : List ByteArray := (List.range k).map fun j => stepsB (dg text j).toNat (begB seed key j)
theorem endsTo_step (seed : ByteArray) (key : Int) (text : ByteArray) (k : Nat) : endsTo seed key text (k + 1) = endsTo seed key text k ++ [stepsB (dg text k).toNat (begB seed key k)] := by simp [endsTo, List.range_succ]
theorem endsTo_len (seed : ByteArray) (key : Int) (text : ByteArray) (k : Nat) : (endsTo seed key text k).length = k := by simp [endsTo]
theorem endsTo_wide (seed : ByteArray) (key : Int) (text : ByteArray) (k : Nat) : ∀ x ∈ endsTo seed key text k, x.size = 32 := by
  intro x hx
  obtain ⟨j, _, rfl⟩ := List.mem_map.1 hx
  exact stepsB_size _ _ (begB_size _ _ _)
theorem endsTo_get (seed : ByteArray) (key : Int) (text : ByteArray) (k j : Nat) (h : j < k) : (endsTo seed key text k).getD j ByteArray.empty = stepsB (dg text j).toNat (begB seed key j) := by
  simp [endsTo, List.getD_eq_getElem?_getD, h]

def signOk (seed : ByteArray) (key : Int) (text : ByteArray) : Bool := seedB seed && (decide (0 ≤ key ∧ key ≤ 3) && decide (text.size ≤ 8000))
def sgK (seed : ByteArray) (key : Int) (text : ByteArray) : Int := if signOk seed key text = true then key else 0
def sgE (seed : ByteArray) (key : Int) (text : ByteArray) : List ByteArray := if signOk seed key text = true then endsTo seed key text 6 else []
def sgP (seed : ByteArray) (key : Int) (text : ByteArray) : List ByteArray := if signOk seed key text = true then pathB (pubsB seed) key.toNat else []

/-- The first k Ends, taken to their tops, one behind the other. -/
def upTo (text : ByteArray) (ends : List ByteArray) (k : Nat) : ByteArray := catB (fun j => stepsB (15 - dg text j).toNat (ends.getD j ByteArray.empty)) k
theorem upTo_step (text : ByteArray) (ends : List ByteArray) (k : Nat) : upTo text ends (k + 1) = upTo text ends k ++ stepsB (15 - dg text k).toNat (ends.getD k ByteArray.empty) := rfl
def verA (root text : ByteArray) (key : Int) (ends path : List ByteArray) : Bool :=
  if sgnB key ends path = true ∧ root.size = 32 ∧ text.size ≤ 8000 then incA (leafB (digB (upTo text ends 6))) key 4 path root else false

theorem pathB_two (l : List ByteArray) (h : l.length = 2) (i : Nat) (hi : i < 2) : (pathB l i).length = 1 := by
  have h2 : halfN l.length = 1 := by rw [h]; exact halfN_unique (n := 2) (j := 0) (by omega) (by omega)
  by_cases hl : i < halfN l.length
  · rw [pathB_left (by omega) hl, pathB_one (by simp; omega)]; simp
  · rw [pathB_right (by omega) hl, pathB_one (by simp; omega)]; simp
theorem pathB_four (l : List ByteArray) (h : l.length = 4) (i : Nat) (hi : i < 4) : (pathB l i).length = 2 := by
  have h2 : halfN l.length = 2 := by rw [h]; exact halfN_unique (n := 4) (j := 1) (by omega) (by omega)
  by_cases hl : i < halfN l.length
  · rw [pathB_left (by omega) hl, List.length_append, pathB_two _ (by simp; omega) _ (by omega)]; simp
  · rw [pathB_right (by omega) hl, List.length_append, pathB_two _ (by simp; omega) _ (by omega)]; simp
theorem pubsB_len (seed : ByteArray) : (pubsB seed).length = 4 := pubsTo_len seed 4
theorem signOk_parts {seed : ByteArray} {key : Int} {text : ByteArray} (h : signOk seed key text = true) : seedB seed = true ∧ (0 ≤ key ∧ key ≤ 3) ∧ text.size ≤ 8000 := by
  unfold signOk at h
  rw [Bool.and_eq_true, Bool.and_eq_true, decide_eq_true_iff, decide_eq_true_iff] at h
  exact h
/-- What is signed is right. -/
theorem sign_right (seed : ByteArray) (key : Int) (text : ByteArray) : sgnB (sgK seed key text) (sgE seed key text) (sgP seed key text) = signOk seed key text := by
  cases h : signOk seed key text with
  | true =>
    obtain ⟨_, hk, _⟩ := signOk_parts h
    unfold sgK sgE sgP
    rw [if_pos h, if_pos h, if_pos h]
    unfold sgnB
    rw [decide_eq_true hk, endsTo_len, pathB_four _ (pubsB_len seed) _ (by omega), wideB_of (endsTo_wide seed key text 6), wideB_of (pathB_wide _ _)]
    rfl
  | false =>
    have hn : ¬ signOk seed key text = true := by rw [h]; exact Bool.false_ne_true
    unfold sgK sgE sgP
    rw [if_neg hn, if_neg hn, if_neg hn]
    rfl
/-- P6: what is signed is verified under the seed's root. -/
theorem sign_true {seed : ByteArray} {key : Int} {text : ByteArray} (h : signOk seed key text = true) : verA (rootA seed) text (sgK seed key text) (sgE seed key text) (sgP seed key text) = true := by
  obtain ⟨hs, hk, ht⟩ := signOk_parts h
  obtain ⟨i, rfl⟩ := Int.eq_ofNat_of_zero_le hk.1
  have hr := sign_right seed i text
  rw [h] at hr
  have hroot : rootA seed = treeB (pubsB seed) := if_pos hs
  unfold verA
  rw [if_pos ⟨hr, by rw [hroot, treeB_size], ht⟩, hroot]
  unfold sgK sgE sgP
  rw [if_pos h, if_pos h, if_pos h, Int.toNat_natCast]
  have hup : upTo text (endsTo seed i text 6) 6 = catB (topB seed i) 6 := by
    refine catB_congr _ _ _ (fun j hj => ?_)
    obtain ⟨b0, b1⟩ := dg_bd text j hj
    show stepsB (15 - dg text j).toNat ((endsTo seed i text 6).getD j ByteArray.empty) = stepsB 15 (begB seed i j)
    rw [endsTo_get _ _ _ _ _ hj, ← stepsB_add, show (dg text j).toNat + (15 - dg text j).toNat = 15 by omega]
  rw [hup]
  have hi : i < (pubsB seed).length := by rw [pubsB_len]; omega
  have hg : (pubsB seed)[i] = pubB seed i := by simp [pubsB, pubsTo]
  have hI := inc_true (pubsB_ent seed) i hi
  rw [hg, pubsB_len] at hI
  have hp : pathA (pubsB seed) (i : Int) = pathB (pubsB seed) i := by
    unfold pathA; rw [if_pos ⟨pubsB_ent seed, by omega, by rw [pubsB_len]; omega⟩, Int.toNat_natCast]
  have ht : treeA (pubsB seed) = treeB (pubsB seed) := if_pos (pubsB_ent seed)
  rw [hp, ht] at hI
  exact hI
end Go.Proofs.YtfdihkgkiiekcaaDoor
