/-
  Parts of one proof, laid as one text: ProofG, LawPf, FldRise, ScanMath; what each says stands at its head.
-/
import Derived.Test.YtnkcigobjaplkabGreatDoorRows
import Derived.Test.YtnkcigobjaplkabGreatDoorBytesDigMath
import Derived.Test.YtnkcigobjaplkabGreatDoorSlASlBBxKOwnSTakes
import Derived.Test.YtnkcigobjaplkabGreatDoorTreeMath
import Derived.Test.YtnkcigobjaplkabGreatDoorAll2LeafNodeIncMath
import Derived.Test.YtnkcigobjaplkabGreatDoorPowerTakerTakePathIncIWide2Inc2LawSG
import Derived.Test.YtnkcigobjaplkabGreatDoorLawSLawM
import Derived.Handy
import Derived.WalkSpells
import Derived.OwnWalk
import Derived.WalkKit
import Derived.ProofKit
import Derived.OpenShut
import Derived.ChangeSame
import Derived.Deep.Strs
import Derived.Deep.Slices
import Derived.Deep.RegionHeld3
import Derived.Deep.Cut
import Derived.Laws.OwnMore
import Derived.Test.YtnkcigobjaplkabGreatDoorJoinedPutTextFldMath
import Derived.Below
import Derived.Laws.BitsAllLaws
import Derived.Laws.Bits64b
import Derived.Lib.Strings
/-
  ProofGood, as the specification and the program answer; what the laws' own helpers szProof, toProof, eqProof answer; a Proof that came in.
  Conditions: the slice's cells hold those texts; for the program's: the two tables of the digest are laid.
-/
namespace Go.Proofs.YtnkcigobjaplkabGreatDoor
open Go.RowKit Go.Lib
set_option linter.unusedVariables false
set_option maxRecDepth 20000

def pgB (lf : ByteArray) (ix sz : Int) (ss : List ByteArray) (rt : ByteArray) : Bool := incA (leafA lf) ix sz ss rt
theorem pg_root {lf : ByteArray} {ix sz : Int} {ss : List ByteArray} {rt : ByteArray} (h : ¬ rt.size ≤ 8000) : pgB lf ix sz ss rt = false := by
  unfold pgB incA; rw [if_neg (by omega)]
theorem pg_list {lf : ByteArray} {ix sz : Int} {ss : List ByteArray} {rt : ByteArray} (h : ¬ ss.length ≤ 400) : pgB lf ix sz ss rt = false := by
  unfold pgB incA; rw [if_neg (by omega)]
theorem pg_leaf {lf : ByteArray} {ix sz : Int} {ss : List ByteArray} {rt : ByteArray} (h : ¬ lf.size ≤ 100) : pgB lf ix sz ss rt = false := by
  unfold pgB incA leafA; rw [if_neg h, if_neg (fun q => by have := q.2.2.2.1; simp at this)]
theorem pg_some {lf : ByteArray} {ix sz : Int} {ss : List ByteArray} {rt : ByteArray} (h : lf.size ≤ 100) : pgB lf ix sz ss rt = incA (leafB lf) ix sz ss rt := by
  unfold pgB leafA; rw [if_pos h]
theorem leafA_le (t : ByteArray) : (leafA t).size ≤ 32 := by
  unfold leafA; split
  · rw [leafB_size]; exact Nat.le_refl _
  · simp
set_option maxHeartbeats 2000000 in
theorem eqProof_any (lf : ByteArray) (ix sz : Int) (a b : Option Addr) (c d : Nat) (ss : List ByteArray) (w : World) (hp : TxtAt w a ss) (hq : TxtAt w b ss) (hn : ss.length ≤ 1048576) (hc : ss.length ≤ c) (hd : ss.length ≤ d) :
    Calls Tryz.prog 26 #[.agg #[.string lf, .int .i64 ix, .int .i64 sz, .slice a ss.length c], .agg #[.string lf, .int .i64 ix, .int .i64 sz, .slice b ss.length d]] w fun e w' => e = .returned (.bool true) ∧ Below w.heap.size w w' := by
  obtain ⟨W2, hW2⟩ : ∃ W2, W2 = (w.alloc (.cells #[.string lf, .int .i64 ix, .int .i64 sz, .slice a ss.length c] 54)).alloc (.cells #[.string lf, .int .i64 ix, .int .i64 sz, .slice b ss.length d] 54) := ⟨_, rfl⟩
  have HW2 : Hid (W2 = (w.alloc (.cells #[.string lf, .int .i64 ix, .int .i64 sz, .slice a ss.length c] 54)).alloc (.cells #[.string lf, .int .i64 ix, .int .i64 sz, .slice b ss.length d] 54)) := hW2
  have B2 : Hid (Below w.heap.size w W2) := by rw [hW2]; exact ((Below.refl _ _).alloc (Nat.le_refl _) _).alloc (by simp) _
  have hE : Calls Tryz.prog 49 #[.slice a ss.length c, .slice b ss.length d] W2 fun e w' => e = .returned (.bool true) ∧ Below W2.heap.size W2 w' := (eq_any a b c d ss ss W2 (hp.below B2.out) (hq.below B2.out) (by omega) (by omega) hc hd).mono (by rintro e y ⟨rfl, h⟩; exact ⟨by rw [decide_eq_true rfl], h⟩)
  clear hW2 hp hq
  go_enter Tryz.func26, Tryz.ntmps26
  go_wp2_with fail
  rw [← HW2.out]
  refine hE.mono ?_
  rintro e y ⟨rfl, by_⟩
  go_wp2_with fail
  go_ret
  exact ⟨rfl, chainB B2.out by_⟩
/-- What a walk is told of a Proof that came in. -/
def IsProof (w : World) (lf : ByteArray) (ix sz : Int) (a : Option Addr) (c : Nat) (ss : List ByteArray) : Prop :=
  lf.size ≤ maxLen ∧ (Lit.int .i64 ix).wf = true ∧ (Lit.int .i64 sz).wf = true ∧ TxtAt w a ss ∧ ss.length ≤ c ∧ c ≤ maxLen ∧ ∀ x ∈ ss, x.size ≤ maxLen
section
open Go.ChangeShapes Go.WideShapes Go.ChangeAt Go.Deep
theorem ptxts_of {H : Type} {enc : TypeId × Value → H} {W : World} {base : Nat} {fuel : Nat} {x : DataW H × List MemPlace} {cs : List Value}
    (h : DataW.trod enc Tryz.prog W base (fun _ => true) true fuel 23 cs = some x) : ∃ a cap ss, cs = [.slice a (List.length ss) cap] ∧ TxtAt W a ss ∧ ss.length ≤ cap ∧ cap ≤ maxLen ∧ ∀ x ∈ ss, x.size ≤ maxLen := by
  rcases Go.Deep.open_strs Tryz.underlying23 Tryz.underlying9 (by kernel_rfl) h with ⟨hcs, _⟩ | ⟨ad, l, c, m, Sx, hcs, _, hl, hm, hmm, _, hx⟩
  · exact ⟨none, 0, [], hcs, TxtAt.nil _ _, Nat.le_refl _, by unfold maxLen; omega, fun x hx => by cases hx⟩
  · rw [if_pos rfl] at hmm
    subst hmm
    refine ⟨some ad, m, (List.range l).map Sx, by simpa using hcs, ?_, by simpa using hl, hm, ?_⟩
    · intro i hi
      have hi2 : i < l := by simpa using hi
      obtain ⟨b, off, spot⟩ := ad
      have hc := (hx i (by omega)).1
      have hspot : spot = none := by simpa [Addr.add] using World.cell?_spot (hx 0 (by omega)).1
      subst hspot
      have hadd : (⟨b, off, none⟩ : Addr).add i = ⟨b, off + i, none⟩ := by unfold Addr.add; split <;> simp_all
      rw [hadd] at hc
      exact ⟨b, off, rfl, World.block_lt_of_cell? W _ hc, by rw [hc]; simp⟩
    · intro x hxm
      obtain ⟨i, hi, rfl⟩ := List.mem_map.1 hxm
      exact (hx i (by have := List.mem_range.1 hi; omega)).2
end
end Go.Proofs.YtnkcigobjaplkabGreatDoor
/-
  What the laws' own helpers markProof and heldProof do.
-/
namespace Go.Proofs.YtnkcigobjaplkabGreatDoor
open Go.RowKit Go.Lib
set_option linter.unusedVariables false
set_option maxRecDepth 20000

set_option maxHeartbeats 1000000 in
theorem markProof_any (lf : ByteArray) (ix sz : Int) (base : Nat) (pg : Option Addr) (cg : Nat) (P : List ByteArray) (w : World) (o : w.ownsRow base 9 1 (.slice pg P.length cg) P.length (strRow P)) (hl : P.length ≤ 1048576) :
    Calls Tryz.prog 27 #[.agg #[.string lf, .int .i64 ix, .int .i64 sz, .slice pg P.length cg], .int .i64 1] w fun e w' => e = .returned (.int .i64 ((P.length : Int) + 1)) ∧ w'.ownsRow base 9 1 (.slice pg P.length cg) P.length (strRow (marksL P.length)) ∧ w.grownBy w' (Value.slice pg P.length cg).ownBlock := by
  obtain ⟨W1, hW1⟩ : ∃ W1, W1 = w.alloc (.cells #[.string lf, .int .i64 ix, .int .i64 sz, .slice pg P.length cg] 54) := ⟨_, rfl⟩
  have HW1 : Hid (W1 = w.alloc (.cells #[.string lf, .int .i64 ix, .int .i64 sz, .slice pg P.length cg] 54)) := hW1
  have B1 : Below w.heap.size w W1 := by rw [hW1]; exact (Below.refl _ _).alloc (Nat.le_refl _) _
  have HB1 : Hid (Below w.heap.size w W1) := B1
  have K1 : Hid (Bxs W1 w.heap.size 54 #[.string lf, .int .i64 ix, .int .i64 sz, .slice pg P.length cg]) := by rw [hW1]; exact Bxs.new _ _ _
  have hM := mark_any base _ P W1 (ownS_below o B1) hl
  have x3 := K1.out.cell 3
  rw [HW1.out] at x3
  clear hW1 B1 o
  go_enter Tryz.func27, Tryz.ntmps27
  go_wp2_with fail
  rw [← HW1.out]
  refine hM.mono ?_
  rintro e y ⟨rfl, o2, hg⟩
  have HG : Hid (w.grownBy y (Value.slice pg P.length cg).ownBlock) := ⟨hg.os.trans HB1.out.os, hg.tape.trans HB1.out.tape, hg.output.trans HB1.out.output, Nat.le_trans HB1.out.size hg.size, fun k hk hn => (hg.block k (Nat.lt_of_lt_of_le hk HB1.out.size) hn).trans (HB1.out.block k hk)⟩
  have HO : Hid (y.ownsRow base 9 1 (.slice pg P.length cg) P.length (strRow (marksL P.length))) := o2
  clear hM hg o2 x3
  go_wp2_with fail
  go_ret
  exact ⟨rfl, HO.out, HG.out⟩
set_option maxHeartbeats 1000000 in
theorem heldProof_any (lf : ByteArray) (ix sz : Int) (pg : Option Addr) (cg n : Nat) (w : World) (hp : TxtAt w pg (marksL n)) (hn : n ≤ 1048576) (hc : n ≤ cg) :
    Calls Tryz.prog 28 #[.agg #[.string lf, .int .i64 ix, .int .i64 sz, .slice pg n cg], .int .i64 1] w fun e w' => e = .returned (.int .i64 ((n : Int) + 1)) ∧ Below w.heap.size w w' := by
  obtain ⟨W1, hW1⟩ : ∃ W1, W1 = w.alloc (.cells #[.string lf, .int .i64 ix, .int .i64 sz, .slice pg n cg] 54) := ⟨_, rfl⟩
  have HW1 : Hid (W1 = w.alloc (.cells #[.string lf, .int .i64 ix, .int .i64 sz, .slice pg n cg] 54)) := hW1
  have B1 : Hid (Below w.heap.size w W1) := by rw [hW1]; exact (Below.refl _ _).alloc (Nat.le_refl _) _
  have K1 : Hid (Bxs W1 w.heap.size 54 #[.string lf, .int .i64 ix, .int .i64 sz, .slice pg n cg]) := by rw [hW1]; exact Bxs.new _ _ _
  have hM := held_any pg cg n W1 (hp.below B1.out) hn hc
  have d0 : decide ((n : Int) + 1 < 0) = false := decide_eq_false (by omega)
  have x3 := K1.out.cell 3
  rw [HW1.out] at x3
  clear hW1 hp
  go_enter Tryz.func28, Tryz.ntmps28
  go_wp2_with fail
  rw [← HW1.out]
  refine hM.mono ?_
  rintro e y ⟨rfl, b⟩
  clear hM x3
  go_wp2_with fail
  go_ret
  exact ⟨rfl, chainB B1.out b⟩
end Go.Proofs.YtnkcigobjaplkabGreatDoor
/-
  When names rise; a row that is not right; texts that are not too long.
-/
namespace Go.Proofs.YtnkcigobjaplkabGreatDoor
open Go.RowKit Go.Lib
set_option linter.unusedVariables false

theorem rise_iff : ∀ (fs : List Fld), rise fs = true ↔ ∀ j (h0 : 0 < j) (h : j < fs.length), Op.bytesLess (fs[j - 1]'(by omega)).n.toList fs[j].n.toList = true
  | [] => ⟨fun _ j h0 h => by simp at h, fun _ => rfl⟩
  | [a] => ⟨fun _ j h0 h => by simp at h; omega, fun _ => rfl⟩
  | a :: b :: r => by
    have ih := rise_iff (b :: r)
    show (Op.bytesLess a.n.toList b.n.toList && rise (b :: r)) = true ↔ _
    rw [Bool.and_eq_true, ih]
    constructor
    · rintro ⟨h1, h2⟩ j h0 h
      match j, h0 with
      | 1, _ => exact h1
      | j + 2, _ => exact h2 (j + 1) (by omega) (by simpa using h)
    · intro h
      exact ⟨h 1 (by omega) (by simp), fun j h0 hj => by
        obtain ⟨m, rfl⟩ : ∃ m, j = m + 1 := ⟨j - 1, by omega⟩
        exact h (m + 1 + 1) (by omega) (by simpa using hj)⟩
theorem rwB_not_all {k : ByteArray} {at_ : Int} {fs : List Fld} {i : Nat} (hi : i < fs.length) (h : fdB fs[i] = false) : rwB k at_ fs = false := by
  cases hr : rwB k at_ fs with
  | false => rfl
  | true =>
    have := (rwB_parts hr).2.2.2.1 _ (List.getElem_mem hi)
    rw [h] at this; cases this
theorem rwB_not_rise {k : ByteArray} {at_ : Int} {fs : List Fld} {i : Nat} (h0 : 0 < i) (hi : i < fs.length) (h : Op.bytesLess (fs[i - 1]'(by omega)).n.toList fs[i].n.toList = false) : rwB k at_ fs = false := by
  cases hr : rwB k at_ fs with
  | false => rfl
  | true =>
    have := (rise_iff fs).1 (rwB_parts hr).2.2.2.2 i h0 hi
    rw [h] at this; cases this
/-- No text of a field is too long to be read. -/
def FldsLe (fs : List Fld) : Prop := ∀ f ∈ fs, f.n.size ≤ maxLen ∧ f.c.size ≤ maxLen ∧ f.s.size ≤ maxLen ∧ f.v.size ≤ maxLen
end Go.Proofs.YtnkcigobjaplkabGreatDoor
/-
  How the bytes of a number are read, in plain mathematics: 'scan' goes over the groups of seven bits and hands back the code, the bits, and how many bytes it took.
-/
namespace Go.Proofs.YtnkcigobjaplkabGreatDoor
open Go.RowKit Go.Lib
set_option linter.unusedVariables false

def scan : Nat → Nat → Int → List UInt8 → Int × Int × Nat
  | 0, _, _, _ => (3, 0, 0)
  | _ + 1, _, _, [] => (4, 0, 0)
  | f + 1, k, u, c :: r =>
    if k = 9 ∧ 1 < (c.toNat : Int) then (3, 0, 0)
    else if (c.toNat : Int) < 128 then (if (c.toNat : Int) = 0 ∧ 0 < k then (3, 0, 0) else (0, u + (c.toNat : Int) * 2 ^ (7 * k), k + 1))
    else scan f (k + 1) (u + ((c.toNat : Int) - 128) * 2 ^ (7 * k)) r

def unfoldN (u : Int) : Int := if u % 2 = 1 then -(u / 2) - 1 else u / 2
def numOut (n a c : Int) : Value := .agg #[.int .i64 n, .int .i64 a, .int .i64 c]
def scanAt (s : ByteArray) (a : Nat) : Int × Int × Nat := scan 10 0 0 (s.data.toList.drop a)
def getN (s : ByteArray) (a : Int) : Int × Int × Int :=
  if 8000 < s.size then (0, 0, 2) else if a < 0 then (0, 0, 1) else
  if (scanAt s a.toNat).1 = 0 then (unfoldN (scanAt s a.toNat).2.1, a + (scanAt s a.toNat).2.2, 0) else (0, 0, (scanAt s a.toNat).1)

def GetTo (s : ByteArray) (a k : Nat) (u : Int) : Prop :=
  k ≤ 9 ∧ 0 ≤ u ∧ u < 2 ^ (7 * k) ∧ scanAt s a = scan (10 - k) k u (s.data.toList.drop (a + k))

theorem getTo_start (s : ByteArray) (a : Nat) : GetTo s a 0 0 := ⟨by omega, Int.le_refl _, by decide, rfl⟩

theorem drop_cons (s : ByteArray) (i : Nat) (h : i < s.size) : s.data.toList.drop i = s[i] :: s.data.toList.drop (i + 1) := by
  rw [List.drop_eq_getElem_cons (by simpa using h)]; rfl

theorem getTo_short {s : ByteArray} {a k : Nat} {u : Int} (h : GetTo s a k u) (hl : s.size ≤ a + k) : scanAt s a = (4, 0, 0) := by
  obtain ⟨hk, _, _, he⟩ := h
  rw [he, List.drop_of_length_le (by simpa using hl), show 10 - k = (9 - k) + 1 by omega]; rfl

theorem getTo_big {s : ByteArray} {a k : Nat} {u : Int} (h : GetTo s a k u) (hl : a + k < s.size) (hk9 : k = 9) (hc : 1 < (s[a + k].toNat : Int)) : scanAt s a = (3, 0, 0) := by
  obtain ⟨hk, _, _, he⟩ := h
  rw [he, drop_cons s _ hl, show 10 - k = (9 - k) + 1 by omega, scan, if_pos ⟨hk9, hc⟩]

theorem getTo_zero {s : ByteArray} {a k : Nat} {u : Int} (h : GetTo s a k u) (hl : a + k < s.size) (hc : (s[a + k].toNat : Int) = 0) (hp : 0 < k) : scanAt s a = (3, 0, 0) := by
  obtain ⟨hk, _, _, he⟩ := h
  rw [he, drop_cons s _ hl, show 10 - k = (9 - k) + 1 by omega, scan, if_neg (by omega), if_pos (by omega), if_pos ⟨hc, hp⟩]

theorem getTo_ok {s : ByteArray} {a k : Nat} {u : Int} (h : GetTo s a k u) (hl : a + k < s.size) (hc : (s[a + k].toNat : Int) < 128) (h9 : k = 9 → (s[a + k].toNat : Int) ≤ 1) (hz : 0 < k → (s[a + k].toNat : Int) ≠ 0) :
    scanAt s a = (0, u + (s[a + k].toNat : Int) * 2 ^ (7 * k), k + 1) := by
  obtain ⟨hk, _, _, he⟩ := h
  rw [he, drop_cons s _ hl, show 10 - k = (9 - k) + 1 by omega, scan, if_neg (fun ⟨x, y⟩ => by have := h9 x; omega), if_pos hc, if_neg (fun ⟨x, y⟩ => hz y x)]

theorem pow7 (k : Nat) : (2 : Int) ^ (7 * (k + 1)) = 128 * 2 ^ (7 * k) := by
  rw [show 7 * (k + 1) = 7 * k + 7 by omega, Int.pow_add, show (2 : Int) ^ 7 = 128 by decide, Int.mul_comm]

theorem pow7_le : ∀ k : Nat, k ≤ 9 → (1 : Int) ≤ 2 ^ (7 * k) ∧ (2 : Int) ^ (7 * k) ≤ 9223372036854775808
  | 0, _ => by decide
  | 1, _ => by decide
  | 2, _ => by decide
  | 3, _ => by decide
  | 4, _ => by decide
  | 5, _ => by decide
  | 6, _ => by decide
  | 7, _ => by decide
  | 8, _ => by decide
  | 9, _ => by decide
  | k + 10, h => by omega

theorem pow7_le8 (k : Nat) (h : k ≤ 8) : (2 : Int) ^ (7 * k) ≤ 72057594037927936 := by
  have := (pow7_le (k + 1) (by omega)).2
  rw [pow7] at this; omega

theorem getTo_more {s : ByteArray} {a k : Nat} {u : Int} (h : GetTo s a k u) (hl : a + k < s.size) (hk8 : k ≤ 8) (hc : 128 ≤ (s[a + k].toNat : Int)) :
    GetTo s a (k + 1) (u + ((s[a + k].toNat : Int) - 128) * 2 ^ (7 * k)) := by
  obtain ⟨hk, h0, h1, he⟩ := h
  have hcb : (s[a + k].toNat : Int) ≤ 255 := by have := s[a + k].toNat_lt; omega
  have hp := (pow7_le k hk).1
  refine ⟨by omega, ?_, ?_, ?_⟩
  · have : 0 ≤ ((s[a + k].toNat : Int) - 128) * 2 ^ (7 * k) := Int.mul_nonneg (by omega) (by omega)
    omega
  · rw [pow7]
    have : ((s[a + k].toNat : Int) - 128) * 2 ^ (7 * k) ≤ 127 * 2 ^ (7 * k) := Int.mul_le_mul_of_nonneg_right (by omega) (by omega)
    omega
  · rw [he, drop_cons s _ hl, show 10 - k = (10 - (k + 1)) + 1 by omega, scan, if_neg (by omega), if_neg (by omega)]; rfl

/-- What is added at one byte stays below 2^64. -/
theorem add_fits {k : Nat} {u x : Int} (hk : k ≤ 9) (h0 : 0 ≤ u) (h1 : u < 2 ^ (7 * k)) (x0 : 0 ≤ x) (x1 : x ≤ 127) (x9 : k = 9 → x ≤ 1) :
    0 ≤ x * 2 ^ (7 * k) ∧ u + x * 2 ^ (7 * k) < 18446744073709551616 := by
  have hp := pow7_le k hk
  refine ⟨Int.mul_nonneg x0 (by omega), ?_⟩
  by_cases h9 : k = 9
  · have := x9 h9
    have : x * 2 ^ (7 * k) ≤ 1 * 2 ^ (7 * k) := Int.mul_le_mul_of_nonneg_right (by omega) (by omega)
    omega
  · have h8 := pow7_le8 k (by omega)
    have : x * 2 ^ (7 * k) ≤ 127 * 2 ^ (7 * k) := Int.mul_le_mul_of_nonneg_right (by omega) (by omega)
    omega

theorem wrap_small (x : Int) (h0 : 0 ≤ x) (h1 : x < 18446744073709551616) : IntKind.u64.wrap x = x := by
  simp [IntKind.wrap, IntKind.bits, IntKind.signed]; omega

theorem spec_add {k : Nat} {u x : Int} (hk : k ≤ 9) (h0 : 0 ≤ u) (h1 : u < 2 ^ (7 * k)) (x0 : 0 ≤ x) (x1 : x ≤ 127) (x9 : k = 9 → x ≤ 1) :
    IntKind.u64.wrap (u + IntKind.u64.wrap (x * 2 ^ (7 * k))) = u + x * 2 ^ (7 * k) := by
  have h := add_fits hk h0 h1 x0 x1 x9
  rw [wrap_small (x * 2 ^ (7 * k)) h.1 (by omega), wrap_small _ (by omega) h.2]

theorem impl_or {k : Nat} {u x : Int} (hk : k ≤ 9) (h0 : 0 ≤ u) (h1 : u < 2 ^ (7 * k)) (x0 : 0 ≤ x) (x1 : x ≤ 127) (x9 : k = 9 → x ≤ 1) :
    bits .or .u64 u (IntKind.u64.wrap (x * 2 ^ (7 * k))) = u + x * 2 ^ (7 * k) := by
  have h := add_fits hk h0 h1 x0 x1 x9
  rw [wrap_small (x * 2 ^ (7 * k)) h.1 (by omega)]
  obtain ⟨a, rfl⟩ := Int.eq_ofNat_of_zero_le h0
  obtain ⟨b, rfl⟩ := Int.eq_ofNat_of_zero_le x0
  have e : ((b : Int) * 2 ^ (7 * k)) = ((b * 2 ^ (7 * k) : Nat) : Int) := by rw [Int.natCast_mul, Int.natCast_pow]; rfl
  have ha : a < 2 ^ (7 * k) := by
    have : (a : Int) < ((2 ^ (7 * k) : Nat) : Int) := by rw [Int.natCast_pow]; exact h1
    omega
  rw [e] at h ⊢
  rw [bits_or_u64_nat a (b * 2 ^ (7 * k)) (by omega) (by omega)]
  have : a ||| b * 2 ^ (7 * k) = a + b * 2 ^ (7 * k) := by
    rw [Nat.or_comm, Nat.mul_comm, ← Nat.two_pow_add_eq_or_of_lt ha, Nat.add_comm]
  rw [this]; omega

theorem and127 (x : Int) (h0 : 0 ≤ x) (h1 : x ≤ 255) : bits .and .u8 x 127 = x % 128 := by
  have key : ∀ y : Fin 256, bits .and .u8 ((y.val : Nat) : Int) 127 = ((y.val % 128 : Nat) : Int) := by decide +kernel
  have := key ⟨x.toNat, by omega⟩
  simp only at this
  rw [show ((x.toNat : Nat) : Int) = x by omega] at this
  rw [this]; omega

theorem and1 (u : Int) (h0 : 0 ≤ u) (h1 : u < 18446744073709551616) : bits .and .u64 u 1 = u % 2 := by
  obtain ⟨a, rfl⟩ := Int.eq_ofNat_of_zero_le h0
  have : bits .and .u64 (a : Int) ((1 : Nat) : Int) = ((a &&& 1 : Nat) : Int) := bits_and_u64_nat a 1 (by omega) (by omega)
  rw [show ((1 : Nat) : Int) = 1 from rfl] at this
  rw [this, Nat.and_one_is_mod]; omega

theorem not64 (x : Int) (h0 : 0 ≤ x) (h1 : x ≤ 9223372036854775807) : bits .xor .i64 (-1) x = -x - 1 := by
  obtain ⟨a, rfl⟩ := Int.eq_ofNat_of_zero_le h0
  show IntKind.i64.wrap ((BitVec.ofInt 64 (-1) ^^^ BitVec.ofInt 64 (a : Int)).toNat : Int) = _
  have h2 : BitVec.ofInt 64 (-1) = BitVec.allOnes 64 := by decide
  rw [h2, BitVec.allOnes_xor, BitVec.toNat_not, BitVec.ofInt_natCast, BitVec.toNat_ofNat, Nat.mod_eq_of_lt (by omega)]
  simp [IntKind.wrap, IntKind.bits, IntKind.signed]; omega

theorem scan_bd : ∀ (f k : Nat) (u : Int) (l : List UInt8), k + f = 10 → 0 ≤ u → u < 2 ^ (7 * k) →
    ((scan f k u l).1 = 0 ∧ 0 ≤ (scan f k u l).2.1 ∧ (scan f k u l).2.1 ≤ 18446744073709551615 ∧ k < (scan f k u l).2.2 ∧ (scan f k u l).2.2 ≤ 10 ∧ (scan f k u l).2.2 ≤ k + l.length) ∨
    (((scan f k u l).1 = 3 ∨ (scan f k u l).1 = 4) ∧ (scan f k u l).2.1 = 0 ∧ (scan f k u l).2.2 = 0)
  | 0, k, u, l, _, _, _ => .inr ⟨.inl rfl, rfl, rfl⟩
  | f + 1, k, u, [], _, _, _ => .inr ⟨.inr rfl, rfl, rfl⟩
  | f + 1, k, u, c :: r, hk, h0, h1 => by
    rw [scan]
    have hcb : (c.toNat : Int) ≤ 255 := by have := c.toNat_lt; omega
    split
    · exact .inr ⟨.inl rfl, rfl, rfl⟩
    · rename_i h9
      split
      · rename_i hc
        split
        · exact .inr ⟨.inl rfl, rfl, rfl⟩
        · have hf := add_fits (x := (c.toNat : Int)) (by omega) h0 h1 (by omega) (by omega) (fun e => by omega)
          exact .inl ⟨rfl, by show 0 ≤ u + _; omega, by show u + _ ≤ _; omega, Nat.lt_succ_self k, by show k + 1 ≤ 10; omega, by show k + 1 ≤ _; simp⟩
      · rename_i hc
        have hk8 : k ≤ 8 := by omega
        have hp := (pow7_le k (by omega)).1
        have m0 : 0 ≤ ((c.toNat : Int) - 128) * 2 ^ (7 * k) := Int.mul_nonneg (by omega) (by omega)
        have m1 : ((c.toNat : Int) - 128) * 2 ^ (7 * k) ≤ 127 * 2 ^ (7 * k) := Int.mul_le_mul_of_nonneg_right (by omega) (by omega)
        rcases scan_bd f (k + 1) (u + ((c.toNat : Int) - 128) * 2 ^ (7 * k)) r (by omega) (by omega) (by rw [pow7]; omega) with h | h
        · exact .inl ⟨h.1, h.2.1, h.2.2.1, by omega, h.2.2.2.2.1, by have := h.2.2.2.2.2; simp; omega⟩
        · exact .inr h

theorem scanAt_bd (s : ByteArray) (a : Nat) :
    ((scanAt s a).1 = 0 ∧ 0 ≤ (scanAt s a).2.1 ∧ (scanAt s a).2.1 ≤ 18446744073709551615 ∧ (scanAt s a).2.2 ≤ 10 ∧ a + (scanAt s a).2.2 ≤ s.size) ∨
    (((scanAt s a).1 = 3 ∨ (scanAt s a).1 = 4) ∧ (scanAt s a).2.1 = 0 ∧ (scanAt s a).2.2 = 0) := by
  rcases scan_bd 10 0 0 (s.data.toList.drop a) rfl (Int.le_refl _) (by decide) with h | h
  · refine .inl ⟨h.1, h.2.1, h.2.2.1, h.2.2.2.2.1, ?_⟩
    have h2 := h.2.2.2.1
    have h3 := h.2.2.2.2.2
    rw [List.length_drop] at h3
    have e : s.data.toList.length = s.size := by simp
    unfold scanAt; omega
  · exact .inr h
end Go.Proofs.YtnkcigobjaplkabGreatDoor
