/-
  Parts of one proof, laid as one text: JdMath, AudS; what each says stands at its head.
-/
import Derived.Test.YthkmeneepkaedaaGreatDoorRows
import Derived.Test.YthkmeneepkaedaaGreatDoorBytesDigMath
import Derived.Test.YthkmeneepkaedaaGreatDoorTreeMathSlASlBBxKOwnS
import Derived.Test.YthkmeneepkaedaaGreatDoorTimeBPutMathPutNumJoinedPutTextFldMath
import Derived.Test.YthkmeneepkaedaaGreatDoorFldGShwKFldHTakesAudMathLawAuOpAuFldRiseScanMath
import Derived.Test.YthkmeneepkaedaaGreatDoorFldV
import Derived.Test.YthkmeneepkaedaaGreatDoorGetValGetTxtNumMathFldRdNumFromTmbMathLgMath
import Derived.Test.YthkmeneepkaedaaGreatDoorProofG
import Derived.Test.YthkmeneepkaedaaGreatDoorLogRITreeHImplRtPrfLsAnMath
import Derived.Handy
import Derived.OwnWalk
import Derived.Test.YthkmeneepkaedaaGreatDoorPathIFldIsLgRtTimeIGrKSpecGNSpecGT
import Derived.WalkSpells
/-
  What Judge answers (plain): 'jdV'; the program's way comes to the same.
-/
namespace Go.Proofs.YthkmeneepkaedaaGreatDoor
open Go.RowKit Go.Lib
set_option linter.unusedVariables false
set_option maxRecDepth 20000

/-- A proof stands: there is no leaf, or it is of that size, good under that root, and of that kind. -/
def stB (sz0 : Int) (rt lf : ByteArray) (ix sz : Int) (P : List ByteArray) (kd : Int) : Bool := noT lf || (decide (sz = sz0) && (pgB lf ix sz P rt && decide (lkB lf = kd)))
def ntB (row field : Int) (lf : ByteArray) : Bool := ((trO lf).r == row) && ((trO lf).f == field)
def shB (field : Int) (sh : Shw) (lf : ByteArray) : Bool := !noT (svB sh) && (((svB sh).toList == lf.toList) && (sh.ix == field))
def jdV (k : ByteArray) (s : Int) (r : ByteArray) (row field : Int) (o : Ans) : Int :=
  if (audB k s r && !decide (s = 0)) = true then
    (if (stB s r o.l1 o.i1 o.s1 o.p1 1 && (stB s r o.l2 o.i2 o.s2 o.p2 2 && (noT o.l2 || ntB row field o.l2))) = true then
      (if 0 < o.sh.ns.length then (if (shB field o.sh o.l1 && noT o.l2) = true then 1 else 4)
      else (if noT o.l2 = true then 3 else 2))
    else 4)
  else 0
/-- The program's way. -/
def jdI (n : Nat) (s1 s2 nt no sh : Bool) : Int := if s1 = true then (if 0 < n then (if sh = true then (if s2 = true then (if nt = true then 1 else 4) else 4) else 4) else (if s2 = true then (if nt = true then 3 else if no = true then 2 else 4) else 4)) else 4
theorem jd_way (n : Nat) (s1 s2 nt no sh : Bool) : (if (s1 && (s2 && (nt || no))) = true then (if 0 < n then (if (sh && nt) = true then 1 else 4) else (if nt = true then 3 else 2)) else (4 : Int)) = jdI n s1 s2 nt no sh := by
  unfold jdI
  by_cases h : 0 < n
  · simp only [if_pos h]; cases s1 <;> cases s2 <;> cases nt <;> cases no <;> cases sh <;> rfl
  · simp only [if_neg h]; cases s1 <;> cases s2 <;> cases nt <;> cases no <;> cases sh <;> rfl
theorem jdI_1 (n : Nat) (s2 nt no sh : Bool) : jdI n false s2 nt no sh = 4 := rfl
theorem jdI_2 (n : Nat) (nt no sh : Bool) : jdI n true false nt no sh = 4 := by unfold jdI; cases sh <;> by_cases h : 0 < n <;> simp [h]
theorem jdI_3 (n : Nat) (sh : Bool) : jdI n true true false false sh = 4 := by unfold jdI; cases sh <;> by_cases h : 0 < n <;> simp [h]
theorem jdI_4 {n : Nat} (h : 0 < n) (nt no sh : Bool) : jdI n true true nt no sh = if (sh && nt) = true then 1 else 4 := by unfold jdI; rw [if_pos h]; cases sh <;> cases nt <;> rfl
theorem jdI_4' {n : Nat} (h : 0 < n) (nt no sh : Bool) : jdI n true true nt no sh = if (sh && nt) = true then 1 else 4 := jdI_4 h nt no sh
theorem jdI_5 {n : Nat} (h : ¬ 0 < n) (no sh : Bool) : jdI n true true true no sh = 3 := by unfold jdI; rw [if_neg h]; rfl
theorem jdI_6 {n : Nat} (h : ¬ 0 < n) (sh : Bool) : jdI n true true false true sh = 2 := by unfold jdI; rw [if_neg h]; rfl
theorem jdV_yes {k : ByteArray} {s : Int} {r : ByteArray} (row field : Int) (o : Ans) (h : audB k s r = true) (h0 : s ≠ 0) : jdV k s r row field o = jdI o.sh.ns.length (stB s r o.l1 o.i1 o.s1 o.p1 1) (stB s r o.l2 o.i2 o.s2 o.p2 2) (noT o.l2) (ntB row field o.l2) (shB field o.sh o.l1) := by
  unfold jdV
  rw [h, decide_eq_false h0, if_pos (by rfl), jd_way]
theorem jdV_no {k : ByteArray} {s : Int} {r : ByteArray} (row field : Int) (o : Ans) (h : audB k s r = false ∨ s = 0) : jdV k s r row field o = 0 := by
  unfold jdV
  rcases h with h | h
  · rw [h]; rfl
  · rw [decide_eq_true h]; cases audB k s r <;> rfl
/-- What is asked of an answer that came in. -/
structure AnIn (o : Ans) (p1 : Option Addr) (c1 : Nat) (p2 : Option Addr) (c2 : Nat) (p3 : Option Addr) (c3 : Nat) (p4 : Option Addr) (c4 : Nat) (w : World) : Prop where
  t1 : TxtAt w p1 o.p1
  t2 : TxtAt w p2 o.sh.ns
  t3 : TxtAt w p3 o.sh.cs
  t4 : TxtAt w p4 o.p2
  m1 : o.p1.length ≤ c1
  m2 : o.sh.ns.length ≤ c2
  m3 : o.sh.cs.length ≤ c3
  m4 : o.p2.length ≤ c4
theorem AnIn.below {o : Ans} {p1 : Option Addr} {c1 : Nat} {p2 : Option Addr} {c2 : Nat} {p3 : Option Addr} {c3 : Nat} {p4 : Option Addr} {c4 : Nat} {w y : World} (h : AnIn o p1 c1 p2 c2 p3 c3 p4 c4 w) (hb : Below w.heap.size w y) : AnIn o p1 c1 p2 c2 p3 c3 p4 c4 y := ⟨h.t1.below hb, h.t2.below hb, h.t3.below hb, h.t4.below hb, h.m1, h.m2, h.m3, h.m4⟩
/-- Sizes that the law has looked at. -/
structure AnBd (o : Ans) : Prop where
  z1 : o.p1.length ≤ 1048576
  z2 : o.sh.ns.length ≤ 1048576
  z3 : o.sh.cs.length ≤ 1048576
  z4 : o.p2.length ≤ 1048576
  l1 : o.l1.size ≤ 1048576
  l2 : o.l2.size ≤ 1048576
  le : ShwLe o.sh
  i1 : -9223372036854775808 ≤ o.i1 ∧ o.i1 ≤ 9223372036854775807
  s1 : -9223372036854775808 ≤ o.s1 ∧ o.s1 ≤ 9223372036854775807
  i2 : -9223372036854775808 ≤ o.i2 ∧ o.i2 ≤ 9223372036854775807
  s2 : -9223372036854775808 ≤ o.s2 ∧ o.s2 ≤ 9223372036854775807
def anW (o : Ans) (p1 : Option Addr) (c1 : Nat) (p2 : Option Addr) (c2 : Nat) (p3 : Option Addr) (c3 : Nat) (p4 : Option Addr) (c4 : Nat) : Array Value := #[.string o.l1, .int .i64 o.i1, .int .i64 o.s1, .slice p1 o.p1.length c1, .string o.sh.k, .int .i64 o.sh.at_, .slice p2 o.sh.ns.length c2, .slice p3 o.sh.cs.length c3, .int .i64 o.sh.ix, .string o.sh.s, .string o.sh.v, .string o.l2, .int .i64 o.i2, .int .i64 o.s2, .slice p4 o.p2.length c4]
end Go.Proofs.YthkmeneepkaedaaGreatDoor
/-
  What the specification's AuditorRight answers: 'audB'.
-/
namespace Go.Proofs.YthkmeneepkaedaaGreatDoor
open Go.RowKit Go.Lib
set_option linter.unusedVariables false
set_option maxRecDepth 20000

set_option maxHeartbeats 1000000 in
theorem specAud_any (k : ByteArray) (s : Int) (r : ByteArray) (w : World) : Calls Tryz.prog 54 #[.agg #[.string k, .int .i64 s, .string r]] w fun e w' => e = .returned (.bool (audB k s r)) ∧ Below w.heap.size w w' := by
  obtain ⟨W1, hW1⟩ : ∃ W1, W1 = w.alloc (.cells #[.string k, .int .i64 s, .string r] 54) := ⟨_, rfl⟩
  have HW1 : Hid (W1 = w.alloc (.cells #[.string k, .int .i64 s, .string r] 54)) := hW1
  have B1 : Hid (Below w.heap.size w W1) := by rw [hW1]; exact (Below.refl _ _).alloc (Nat.le_refl _) _
  have K1 : Bxs W1 w.heap.size 54 #[.string k, .int .i64 s, .string r] := by rw [hW1]; exact Bxs.new _ _ _
  have t0 := K1.cell 0
  have t1 := K1.cell 1
  have t2 := K1.cell 2
  simp at t0 t1 t2
  have hI := l07Is_any s 1 64 W1
  clear K1 hW1
  by_cases h1 : k.size = 32
  case neg =>
    have H : Hid (audB k s r = false) := aud_key h1
    have d1 : ¬ (k.size : Int) = 32 := by omega
    rw [H.out]
    clear h1
    go_enter Tryz.func54, Tryz.ntmps54
    go_wp2_with fail
    rw [← HW1.out]
    go_wp2_with fail
    go_ret
    exact ⟨rfl, B1.out⟩
  have d1 : (k.size : Int) = 32 := by omega
  by_cases h2 : s = 0
  case pos =>
    subst h2
    have H : Hid (audB k 0 r = noT r) := aud_zero h1
    rw [H.out]
    clear h1
    unfold noT
    go_enter Tryz.func54, Tryz.ntmps54
    go_wp2_with fail
    rw [← HW1.out]
    go_wp2_with fail
    go_ret
    exact ⟨rfl, B1.out⟩
  have H : Hid (audB k s r = (decide (1 ≤ s ∧ s ≤ 64) && decide (r.size = 32))) := aud_size h1 h2
  have d2 : (s == 0) = false := beq_eq_false_iff_ne.2 h2
  rw [H.out]
  clear h1 H
  have d3 : ((r.size : Int) == 32) = decide (r.size = 32) := by
    by_cases h : r.size = 32
    · rw [decide_eq_true h]; exact beq_iff_eq.2 (by omega)
    · rw [decide_eq_false h]; exact beq_eq_false_iff_ne.2 (by omega)
  generalize decide (1 ≤ s ∧ s ≤ 64) = b at *
  generalize decide (r.size = 32) = c at *
  go_enter Tryz.func54, Tryz.ntmps54
  go_wp2_with fail
  rw [← HW1.out]
  go_wp2_with fail
  refine hI.mono ?_
  rintro e w1 ⟨rfl, rfl⟩
  cases b
  · go_wp2_with fail
    go_ret
    exact ⟨rfl, B1.out⟩
  cases c
  · have f1 : ¬ (r.size : Int) = 32 := by simpa using d3
    go_wp2_with fail
    go_ret
    exact ⟨rfl, B1.out⟩
  have f1 : (r.size : Int) = 32 := by simpa using d3
  go_wp2_with fail
  go_ret
  exact ⟨rfl, B1.out⟩
end Go.Proofs.YthkmeneepkaedaaGreatDoor
