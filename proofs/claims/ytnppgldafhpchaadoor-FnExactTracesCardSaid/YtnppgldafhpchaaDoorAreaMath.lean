/-
  One text on the disk, as plain functions: the head that is seen, the text that is read, the steps of putting; promises 8 and 9 as plain laws.
-/
import Derived.Test.YtnppgldafhpchaaDoorRows
import Derived.Test.YtnppgldafhpchaaDoorBytes
import Derived.Test.YtnppgldafhpchaaDoorSlASlBOwnS
import Derived.Test.YtnppgldafhpchaaDoorSen3PutMath
import Derived.Test.YtnppgldafhpchaaDoorScanMath
import Derived.Test.YtnppgldafhpchaaDoorNumMath
import Derived.Test.YtnppgldafhpchaaDoorNumInv
import Derived.Test.YtnppgldafhpchaaDoorSealMathPutNum
import Derived.Test.YtnppgldafhpchaaDoorTextMathDskS
import Derived.Test.YtnppgldafhpchaaDoorDskMath
import Derived.Test.YtnppgldafhpchaaDoorDskT
import Derived.Test.YtnppgldafhpchaaDoorDskWDskFIntKDskK
import Derived.Test.YtnppgldafhpchaaDoorDskLaw
import Derived.Test.YtnppgldafhpchaaDoorAreaA
namespace Go.Proofs.YtnppgldafhpchaaDoor
open Go.RowKit Go.Lib
set_option linter.unusedVariables false

/-! ### The seal -/
def unC (s : ByteArray) : Int := if 8000 < s.size then 2 else if s.size < 4 then 4 else if ((four (crcV 0 (body s))).toList == (tail4 s).toList) = true then 0 else 5
def unT (s : ByteArray) : ByteArray := if unC s = 0 then body s else ByteArray.empty
theorem unsealB_eq (s : ByteArray) : unsealB s = textOut (unT s) 0 (unC s) := by
  unfold unsealB unT unC
  split
  · rfl
  · split
    · rfl
    · split <;> rfl
theorem unT_size (s : ByteArray) : (unT s).size ≤ s.size := by
  unfold unT; split
  · unfold body; simp
  · simp
theorem un_seal (t : ByteArray) (h : t.size ≤ 7996) : unC (sealB t) = 0 ∧ unT (sealB t) = t := by
  have h1 := unseal_seal t h
  rw [unsealB_eq] at h1
  unfold textOut at h1
  simp only [Value.agg.injEq] at h1
  have h2 := congrArg Array.toList h1
  simp at h2
  exact ⟨h2.2, h2.1⟩
theorem seal_un {s : ByteArray} (h : unC s = 0) : s = sealB (unT s) ∧ 4 ≤ s.size ∧ (unT s).size = s.size - 4 ∧ s.size ≤ 8000 := by
  have hT : unT s = body s := if_pos h
  unfold unC at h
  split at h
  · exact absurd h (by decide)
  rename_i h8
  split at h
  · exact absurd h (by decide)
  rename_i h4
  split at h
  · rename_i hq
    have hb : (body s).size = s.size - 4 := by unfold body; simp
    refine ⟨?_, by omega, by rw [hT, hb], by omega⟩
    rw [hT]
    unfold sealB
    rw [if_neg (by rw [hb]; omega)]
    have e : (four (crcV 0 (body s))).toList = (tail4 s).toList := by simpa using hq
    have e2 : four (crcV 0 (body s)) = tail4 s := by
      apply ByteArray.ext; apply Array.ext'
      simpa [toList_data] using e
    rw [e2]
    apply ByteArray.ext; apply Array.ext'
    unfold body tail4
    simp
  · exact absurd h (by decide)

/-! ### The head -/
def hd1 (t : ByteArray) : Int × Int × Int := getN t 0
def hd2 (t : ByteArray) : Int × Int × Int := getN t (hd1 t).2.1
def hd3 (t : ByteArray) : Int × Int × Int := getN t (hd2 t).2.1
def HdOk (R : ByteArray) (room : Nat) : Prop :=
  (hd1 (unT R)).2.2 = 0 ∧ (hd2 (unT R)).2.2 = 0 ∧ (hd3 (unT R)).2.2 = 0 ∧ headB (hd1 (unT R)).1 (hd2 (unT R)).1 (hd3 (unT R)).1 = R ∧ 0 ≤ (hd1 (unT R)).1 ∧ (0 ≤ (hd2 (unT R)).1 ∧ (hd2 (unT R)).1 ≤ 1) ∧ (0 ≤ (hd3 (unT R)).1 ∧ (hd3 (unT R)).1 ≤ (room : Int))
instance (R : ByteArray) (room : Nat) : Decidable (HdOk R room) := by unfold HdOk; infer_instance
/-- What is seen of a head: the code, the number, the side, the size. -/
def seC (R : ByteArray) (room : Nat) : Int := if unC R = 0 then (if HdOk R room then 0 else 3) else unC R
def seG (R : ByteArray) (room : Nat) : Nat := if seC R room = 0 then (hd1 (unT R)).1.toNat else 0
def seS (R : ByteArray) (room : Nat) : Nat := if seC R room = 0 then (hd2 (unT R)).1.toNat else 0
def seZ (R : ByteArray) (room : Nat) : Nat := if seC R room = 0 then (hd3 (unT R)).1.toNat else 0
theorem getN_bd (S : ByteArray) (a : Nat) (hz : S.size ≤ 8000) : -9223372036854775808 ≤ (getN S (a : Int)).1 ∧ (getN S (a : Int)).1 ≤ 9223372036854775807 ∧ ∃ b : Nat, (getN S (a : Int)).2.1 = (b : Int) ∧ b ≤ a + 10 := by
  by_cases h : (getN S (a : Int)).2.2 = 0
  · obtain ⟨e, -, h0, h1⟩ := getN_inv (S := S) (a := a) (n := (getN S (a : Int)).1) (b := (getN S (a : Int)).2.1) hz (by rw [← h])
    have := putB_ten (getN S (a : Int)).1
    exact ⟨h0, h1, a + (putB (getN S (a : Int)).1).size, by rw [e]; simp, by omega⟩
  · have e : getN S (a : Int) = (0, 0, (scanAt S a).1) := by
      unfold getN at h ⊢
      rw [if_neg (by omega), if_neg (by omega), Int.toNat_natCast] at h ⊢
      by_cases hs : (scanAt S a).1 = 0
      · rw [if_pos hs] at h; exact absurd rfl h
      · rw [if_neg hs]
    rw [e]
    exact ⟨by simp, by simp, 0, rfl, by omega⟩
theorem seC_ok {R : ByteArray} {room : Nat} (h : seC R room = 0) : R = headB (seG R room) (seS R room) (seZ R room) ∧ seG R room ≤ 9223372036854775807 ∧ seS R room ≤ 1 ∧ seZ R room ≤ room := by
  unfold seG seS seZ
  rw [if_pos h, if_pos h, if_pos h]
  unfold seC at h
  by_cases hu : unC R = 0
  · rw [if_pos hu] at h
    by_cases hk : HdOk R room
    · obtain ⟨-, -, h2, h3⟩ := seal_un hu
      have hb := (getN_bd (unT R) 0 (by omega)).2.1
      obtain ⟨-, -, -, e, g0, ⟨s0, s1⟩, z0, z1⟩ := hk
      have hb : (hd1 (unT R)).1 ≤ 9223372036854775807 := hb
      refine ⟨?_, by omega, by omega, by omega⟩
      rw [Int.toNat_of_nonneg g0, Int.toNat_of_nonneg s0, Int.toNat_of_nonneg z0]
      exact e.symm
    · rw [if_neg hk] at h; exact absurd h (by decide)
  · rw [if_neg hu] at h; exact absurd h hu
theorem three_drop (A B C : List UInt8) : (A ++ B ++ C).drop A.length = B ++ C ∧ (A ++ B ++ C).drop (A.length + B.length) = C := by
  refine ⟨by rw [List.append_assoc]; simp, ?_⟩
  rw [← List.length_append]; simp
/-- A head is seen as what it was made of. -/
theorem se_head (g s z room : Nat) (hg : g ≤ 9223372036854775807) (hs : s ≤ 1) (hz : z ≤ room) (hr : room ≤ 1000000) :
    seC (headB g s z) room = 0 ∧ seG (headB g s z) room = g ∧ seS (headB g s z) room = s ∧ seZ (headB g s z) room = z := by
  obtain ⟨t, ht⟩ : ∃ t, t = putB g ++ putB s ++ putB z := ⟨_, rfl⟩
  have k1 := putB_ten (g : Int)
  have k2 := putB_ten (s : Int)
  have k3 := putB_ten (z : Int)
  have hsz : t.size = (putB g).size + (putB s).size + (putB z).size := by rw [ht]; simp
  have hl : t.data.toList = (putB g).data.toList ++ (putB s).data.toList ++ (putB z).data.toList := by rw [ht]; simp
  obtain ⟨hu, hT⟩ := un_seal t (by omega)
  have hR : headB g s z = sealB t := by rw [ht]; rfl
  have hd := three_drop (putB g).data.toList (putB s).data.toList (putB z).data.toList
  rw [← hl, ← size_eq, ← size_eq] at hd
  have e1 : hd1 t = (↑g, ((putB g).size : Int), 0) := by
    have := getN_put g (by omega) (by omega) t 0 ((putB s).data.toList ++ (putB z).data.toList) (by rw [hl]; simp) (by omega)
    unfold hd1
    simpa using this
  have e2 : hd2 t = (↑s, (((putB g).size + (putB s).size : Nat) : Int), 0) := by
    have := getN_put s (by omega) (by omega) t (putB g).size ((putB z).data.toList) hd.1 (by omega)
    unfold hd2
    rw [e1]
    simpa using this
  have e3 : hd3 t = (↑z, (((putB g).size + (putB s).size + (putB z).size : Nat) : Int), 0) := by
    have := getN_put z (by omega) (by omega) t ((putB g).size + (putB s).size) [] (by rw [hd.2]; simp) (by omega)
    unfold hd3
    rw [e2]
    simpa using this
  have hk : HdOk (headB g s z) room := by
    unfold HdOk
    rw [hR, hT, e1, e2, e3]
    exact ⟨rfl, rfl, rfl, hR, by simp, by simp; omega, by simp; omega⟩
  have hc : seC (headB g s z) room = 0 := by
    unfold seC; rw [hR, if_pos hu, ← hR, if_pos hk]
  unfold seG seS seZ
  rw [if_pos hc, if_pos hc, if_pos hc, hR, hT, e1, e2, e3]
  exact ⟨by rw [← hR]; exact hc, by simp, by simp, by simp⟩
/-- The program's way: the three numbers, nothing behind them. -/
theorem hdOk_iff {R : ByteArray} (room : Nat) (hu : unC R = 0) : HdOk R room ↔ (hd1 (unT R)).2.2 = 0 ∧ (hd2 (unT R)).2.2 = 0 ∧ (hd3 (unT R)).2.2 = 0 ∧ (hd3 (unT R)).2.1 = ((unT R).size : Int) ∧ 0 ≤ (hd1 (unT R)).1 ∧ (0 ≤ (hd2 (unT R)).1 ∧ (hd2 (unT R)).1 ≤ 1) ∧ (0 ≤ (hd3 (unT R)).1 ∧ (hd3 (unT R)).1 ≤ (room : Int)) := by
  obtain ⟨hR, h4, h5, h8⟩ := seal_un hu
  have hz : (unT R).size ≤ 8000 := by omega
  unfold HdOk
  have hback : ∀ x : ByteArray, R = sealB x → x.size ≤ 7996 → unT R = x := fun x e hx => by rw [e]; exact (un_seal x hx).2
  generalize unT R = t at hR h5 hz hback ⊢
  obtain ⟨g, a1, c1, E1⟩ : ∃ g a1 c1, hd1 t = (g, a1, c1) := ⟨_, _, _, rfl⟩
  obtain ⟨s, a2, c2, E2⟩ : ∃ s a2 c2, hd2 t = (s, a2, c2) := ⟨_, _, _, rfl⟩
  obtain ⟨z, a3, c3, E3⟩ : ∃ z a3 c3, hd3 t = (z, a3, c3) := ⟨_, _, _, rfl⟩
  rw [E1, E2, E3]
  show (c1 = 0 ∧ c2 = 0 ∧ c3 = 0 ∧ headB g s z = R ∧ _) ↔ (c1 = 0 ∧ c2 = 0 ∧ c3 = 0 ∧ a3 = (t.size : Int) ∧ _)
  refine and_congr_right fun e1 => and_congr_right fun e2 => and_congr_right fun e3 => and_congr_left fun _ => ?_
  subst e1 e2 e3
  obtain ⟨b1, d1, -, -⟩ := getN_inv (a := 0) hz E1
  unfold hd2 at E2
  rw [E1] at E2
  have b1 : a1 = (((putB g).size : Nat) : Int) := by rw [b1]; simp
  obtain ⟨b2, d2, -, -⟩ := getN_inv (a := (putB g).size) hz (by rw [← b1]; exact E2)
  unfold hd3 at E3
  rw [show hd2 t = (s, a2, 0) from by unfold hd2; rw [E1]; exact E2] at E3
  have b2 : a2 = (((putB g).size + (putB s).size : Nat) : Int) := by rw [b2]; simp
  obtain ⟨b3, d3, -, -⟩ := getN_inv (a := (putB g).size + (putB s).size) hz (by rw [← b2]; exact E3)
  rw [List.drop_zero, Nat.zero_add, d2, d3] at d1
  constructor
  · intro e
    have k1 := putB_ten g
    have k2 := putB_ten s
    have k3 := putB_ten z
    have : t = putB g ++ putB s ++ putB z := hback _ e.symm (by rw [ByteArray.size_append, ByteArray.size_append]; omega)
    rw [b3, this]; simp
  · intro e
    have hl : t.data.toList.length = t.size := (size_eq t).symm
    have hn : t.data.toList.drop ((putB g).size + (putB s).size + (putB z).size) = [] := by
      apply List.drop_of_length_le; omega
    rw [hn] at d1
    have : t = putB g ++ putB s ++ putB z := by
      apply ByteArray.ext; apply Array.ext'
      rw [d1]; simp
    unfold headB
    rw [← this]; exact hR.symm

/-! ### The text -/
def needN (z : Nat) : Nat := (z + 63) / 64
def wantN (z i : Nat) : Nat := min 64 (z - 64 * i)
def sideOk (rd : Nat → ByteArray) (z : Nat) : Nat → Bool
  | 0 => true
  | k + 1 => sideOk rd z k && decide (wantN z k ≤ (rd k).size)
def sideB (rd : Nat → ByteArray) (z : Nat) : Nat → ByteArray
  | 0 => ByteArray.empty
  | k + 1 => sideB rd z k ++ (rd k).extract 0 (wantN z k)
theorem sideOk_iff (rd : Nat → ByteArray) (z k : Nat) : sideOk rd z k = true ↔ ∀ i, i < k → wantN z i ≤ (rd i).size := by
  induction k with
  | zero => simp [sideOk]
  | succ k ih =>
    unfold sideOk
    rw [Bool.and_eq_true, ih, decide_eq_true_iff]
    constructor
    · intro h i hi
      rcases Nat.lt_or_eq_of_le (Nat.le_of_lt_succ hi) with h' | rfl
      · exact h.1 i h'
      · exact h.2
    · intro h; exact ⟨fun i hi => h i (by omega), h k (by omega)⟩
theorem sideB_size (rd : Nat → ByteArray) (z k : Nat) (h : sideOk rd z k = true) : (sideB rd z k).size = min (64 * k) z := by
  induction k with
  | zero => simp [sideB]
  | succ k ih =>
    unfold sideOk at h
    rw [Bool.and_eq_true, decide_eq_true_iff] at h
    unfold sideB
    rw [ByteArray.size_append, ih h.1]
    have := h.2
    unfold wantN at *
    simp; omega
theorem sideB_congr {rd rd' : Nat → ByteArray} (z k : Nat) (h : ∀ i, i < k → rd i = rd' i) : sideOk rd z k = sideOk rd' z k ∧ sideB rd z k = sideB rd' z k := by
  induction k with
  | zero => exact ⟨rfl, rfl⟩
  | succ k ih =>
    obtain ⟨h1, h2⟩ := ih fun i hi => h i (by omega)
    unfold sideOk sideB
    rw [h1, h2, h k (by omega)]
    exact ⟨rfl, rfl⟩
/-- A text cut into pieces, read again. -/
theorem sideB_pieces (rd : Nat → ByteArray) (t : ByteArray) (k : Nat) (h : ∀ i, i < k → rd i = t.extract (64 * i) (min t.size (64 * (i + 1)))) : sideOk rd t.size k = true ∧ sideB rd t.size k = t.extract 0 (min t.size (64 * k)) := by
  induction k with
  | zero => exact ⟨rfl, by simp [sideB]⟩
  | succ k ih =>
    obtain ⟨h1, h2⟩ := ih fun i hi => h i (by omega)
    unfold sideOk sideB
    rw [h1, h2, h k (by omega), Bool.true_and, decide_eq_true_iff]
    unfold wantN
    refine ⟨by simp; omega, ?_⟩
    apply ByteArray.ext; apply Array.ext'
    simp only [ByteArray.data_append, Array.toList_append, extract_data, List.drop_zero, List.take_take, Nat.sub_zero]
    rcases Nat.le_or_le t.size (64 * k) with hk | hk
    · rw [Nat.min_eq_left hk, Nat.min_eq_left (show t.size ≤ 64 * (k + 1) by omega), List.drop_eq_nil_of_le (by rw [← size_eq]; exact hk)]
      simp
    · rw [Nat.min_eq_right hk, show min (min 64 (t.size - 64 * k)) (min t.size (64 * (k + 1)) - 64 * k) = min t.size (64 * (k + 1)) - 64 * k by omega, ← List.take_add, show 64 * k + (min t.size (64 * (k + 1)) - 64 * k) = min t.size (64 * (k + 1)) by omega]
/-- What AreaRead tells: the code, the text, the number. -/
def roomN (ss : List ByteArray) : Nat := 64 * sideN ss.length
def arRd (ss : List ByteArray) (ps : List Pnd) (side i : Nat) : ByteArray := readB ss ps ((1 + side * sideN ss.length + i : Nat) : Int)
def arC (ss : List ByteArray) (ps : List Pnd) : Int :=
  if dskB ss ps = true then (if seC (readB ss ps 0) (roomN ss) = 0 then (if sideOk (arRd ss ps (seS (readB ss ps 0) (roomN ss))) (seZ (readB ss ps 0) (roomN ss)) (needN (seZ (readB ss ps 0) (roomN ss))) = true then 0 else 5) else seC (readB ss ps 0) (roomN ss)) else 1
def arT (ss : List ByteArray) (ps : List Pnd) : ByteArray := if arC ss ps = 0 then sideB (arRd ss ps (seS (readB ss ps 0) (roomN ss))) (seZ (readB ss ps 0) (roomN ss)) (needN (seZ (readB ss ps 0) (roomN ss))) else ByteArray.empty
def arG (ss : List ByteArray) (ps : List Pnd) : Nat := if arC ss ps = 0 then seG (readB ss ps 0) (roomN ss) else 0
def arS (ss : List ByteArray) (ps : List Pnd) : List ByteArray := if arC ss ps = 0 then ss else []
def arP (ss : List ByteArray) (ps : List Pnd) : List Pnd := if arC ss ps = 0 then ps else []
theorem arC_ok {ss : List ByteArray} {ps : List Pnd} (h : arC ss ps = 0) : dskB ss ps = true ∧ seC (readB ss ps 0) (roomN ss) = 0 ∧ sideOk (arRd ss ps (seS (readB ss ps 0) (roomN ss))) (seZ (readB ss ps 0) (roomN ss)) (needN (seZ (readB ss ps 0) (roomN ss))) = true := by
  unfold arC at h
  by_cases h1 : dskB ss ps = true
  · rw [if_pos h1] at h
    by_cases h2 : seC (readB ss ps 0) (roomN ss) = 0
    · rw [if_pos h2] at h
      split at h
      · rename_i h3; exact ⟨h1, h2, h3⟩
      · exact absurd h (by decide)
    · rw [if_neg h2] at h; exact absurd h h2
  · rw [if_neg h1] at h; exact absurd h (by decide)
theorem arC_of {ss : List ByteArray} {ps : List Pnd} (h1 : dskB ss ps = true) (h2 : seC (readB ss ps 0) (roomN ss) = 0) (h3 : sideOk (arRd ss ps (seS (readB ss ps 0) (roomN ss))) (seZ (readB ss ps 0) (roomN ss)) (needN (seZ (readB ss ps 0) (roomN ss))) = true) : arC ss ps = 0 := by
  unfold arC; rw [if_pos h1, if_pos h2, if_pos h3]
end Go.Proofs.YtnppgldafhpchaaDoor
