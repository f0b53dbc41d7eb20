/-
  Out of the form's words: an Answer that came in.
-/
import Derived.Test.YthkmeneepkaedaaGreatDoorRows
import Derived.Test.YthkmeneepkaedaaGreatDoorBytesDigMath
import Derived.Test.YthkmeneepkaedaaGreatDoorTreeMathSlASlBBxKOwnS
import Derived.Test.YthkmeneepkaedaaGreatDoorTimeBPutMathPutNumJoinedPutTextFldMath
import Derived.Test.YthkmeneepkaedaaGreatDoorFldGShwKFldHTakesAudMathLawAuOpAuFldRiseScanMath
import Derived.Test.YthkmeneepkaedaaGreatDoorFldV
import Derived.Test.YthkmeneepkaedaaGreatDoorOpSh
import Derived.Test.YthkmeneepkaedaaGreatDoorProofG
import Derived.Test.YthkmeneepkaedaaGreatDoorLogRITreeHImplRtPrfLsAnMath
import Derived.Test.YthkmeneepkaedaaGreatDoorJdMathAudS
import Derived.WalkKit
import Derived.ProofKit
import Derived.OpenShut
import Derived.OpenVars
import Derived.ShutString
import Derived.ChangeOld
import Derived.ChangeSlices
import Derived.Below
import Derived.Handy
namespace Go.Proofs.YthkmeneepkaedaaGreatDoor
open Go.ChangeShapes Go.WideShapes Go.ChangeAt Go.RowKit
set_option linter.unusedVariables false
set_option maxRecDepth 100000

/-- What the walk is told of an Answer. -/
structure IsAns (w : World) (o : Ans) (p1 : Option Addr) (c1 : Nat) (p2 : Option Addr) (c2 : Nat) (p3 : Option Addr) (c3 : Nat) (p4 : Option Addr) (c4 : Nat) : Prop where
  i : AnIn o p1 c1 p2 c2 p3 c3 p4 c4 w
  h1 : o.l1.size ≤ maxLen
  h2 : o.l2.size ≤ maxLen
  le : ShwLe o.sh
  a : (Lit.int .i64 o.i1).wf = true ∧ (Lit.int .i64 o.s1).wf = true ∧ (Lit.int .i64 o.i2).wf = true ∧ (Lit.int .i64 o.s2).wf = true
  c : c1 ≤ maxLen ∧ c2 ≤ maxLen ∧ c3 ≤ maxLen ∧ c4 ≤ maxLen
  z : (∀ x ∈ o.p1, x.size ≤ maxLen) ∧ (∀ x ∈ o.p2, x.size ≤ maxLen)
theorem trod_proof {H : Type} {enc : TypeId × Value → H} {W : World} {n : Nat} {c0 c1 c2 c3 : Value} {y : DataW H × List MemPlace} (hf : DataW.trod enc Tryz.prog W 0 (fun _ => true) true n 47 [c0, c1, c2, c3] = some y) : ∃ lf ix sz a c ss, c0 = .string lf ∧ c1 = .int .i64 ix ∧ c2 = .int .i64 sz ∧ c3 = .slice a (List.length ss) c ∧ IsProof W lf ix sz a c ss := by
  obtain ⟨xs, n, hk, hxy, hl, hxl, hf⟩ := DataW.trod_struct Tryz.underlying47 hf
  have e0 : Tryz.prog.cellsOf 9 = 1 := by kernel_rfl
  have e1 : Tryz.prog.cellsOf 2 = 1 := by kernel_rfl
  have e2 : Tryz.prog.cellsOf 23 = 1 := by kernel_rfl
  have g0 : DataW.trod enc Tryz.prog W 0 (fun _ => true) true n 9 (([c0, c1, c2, c3].drop 0).take (Tryz.prog.cellsOf 9)) = xs[0]? := hf 0 _ rfl
  have g1 : DataW.trod enc Tryz.prog W 0 (fun _ => true) true n 2 (([c0, c1, c2, c3].drop 1).take (Tryz.prog.cellsOf 2)) = xs[1]? := hf 1 _ rfl
  have g2 : DataW.trod enc Tryz.prog W 0 (fun _ => true) true n 2 (([c0, c1, c2, c3].drop 2).take (Tryz.prog.cellsOf 2)) = xs[2]? := hf 2 _ rfl
  have g3 : DataW.trod enc Tryz.prog W 0 (fun _ => true) true n 23 (([c0, c1, c2, c3].drop 3).take (Tryz.prog.cellsOf 23)) = xs[3]? := hf 3 _ rfl
  clear hf
  match xs, hxl with
  | [y0, y1, y2, y3], _ =>
    simp only [e0, e1, e2, List.drop_zero, List.take_succ_cons, List.take_zero, List.drop_succ_cons, List.getElem?_cons_zero, List.getElem?_cons_succ] at g0 g1 g2 g3
    obtain ⟨s0, h0, _, z0⟩ := DataW.trod_string Tryz.underlying9 g0
    obtain ⟨i1, h1, _, z1⟩ := DataW.trod_int Tryz.underlying2 g1
    obtain ⟨i2, h2, _, z2⟩ := DataW.trod_int Tryz.underlying2 g2
    obtain ⟨a, cap, ss, h3, z3⟩ := ptxts_of g3
    simp only [List.cons.injEq, and_true] at h0 h1 h2 h3
    exact ⟨s0, i1, i2, a, cap, ss, h0, h1, h2, h3, z0, z1, z2, z3⟩
theorem trod_shown {H : Type} {enc : TypeId × Value → H} {W : World} {n : Nat} {c0 c1 c2 c3 c4 c5 c6 : Value} {y : DataW H × List MemPlace} (hf : DataW.trod enc Tryz.prog W 0 (fun _ => true) true n 48 [c0, c1, c2, c3, c4, c5, c6] = some y) : ∃ (o : Shw) (a1 : Option Addr) (k1 : Nat) (a2 : Option Addr) (k2 : Nat), c0 = .string o.k ∧ c1 = .int .i64 o.at_ ∧ c2 = .slice a1 o.ns.length k1 ∧ c3 = .slice a2 o.cs.length k2 ∧ c4 = .int .i64 o.ix ∧ c5 = .string o.s ∧ c6 = .string o.v ∧ IsShown W o a1 o.ns.length k1 a2 o.cs.length k2 := by
  obtain ⟨xs, n, hk, hxy, hl, hxl, hf⟩ := DataW.trod_struct Tryz.underlying48 hf
  have e0 : Tryz.prog.cellsOf 9 = 1 := by kernel_rfl
  have e1 : Tryz.prog.cellsOf 2 = 1 := by kernel_rfl
  have e2 : Tryz.prog.cellsOf 23 = 1 := by kernel_rfl
  have g0 : DataW.trod enc Tryz.prog W 0 (fun _ => true) true n 9 (([c0, c1, c2, c3, c4, c5, c6].drop 0).take (Tryz.prog.cellsOf 9)) = xs[0]? := hf 0 _ rfl
  have g1 : DataW.trod enc Tryz.prog W 0 (fun _ => true) true n 2 (([c0, c1, c2, c3, c4, c5, c6].drop 1).take (Tryz.prog.cellsOf 2)) = xs[1]? := hf 1 _ rfl
  have g2 : DataW.trod enc Tryz.prog W 0 (fun _ => true) true n 23 (([c0, c1, c2, c3, c4, c5, c6].drop 2).take (Tryz.prog.cellsOf 23)) = xs[2]? := hf 2 _ rfl
  have g3 : DataW.trod enc Tryz.prog W 0 (fun _ => true) true n 23 (([c0, c1, c2, c3, c4, c5, c6].drop 3).take (Tryz.prog.cellsOf 23)) = xs[3]? := hf 3 _ rfl
  have g4 : DataW.trod enc Tryz.prog W 0 (fun _ => true) true n 2 (([c0, c1, c2, c3, c4, c5, c6].drop 4).take (Tryz.prog.cellsOf 2)) = xs[4]? := hf 4 _ rfl
  have g5 : DataW.trod enc Tryz.prog W 0 (fun _ => true) true n 9 (([c0, c1, c2, c3, c4, c5, c6].drop 5).take (Tryz.prog.cellsOf 9)) = xs[5]? := hf 5 _ rfl
  have g6 : DataW.trod enc Tryz.prog W 0 (fun _ => true) true n 9 (([c0, c1, c2, c3, c4, c5, c6].drop 6).take (Tryz.prog.cellsOf 9)) = xs[6]? := hf 6 _ rfl
  clear hf
  match xs, hxl with
  | [y0, y1, y2, y3, y4, y5, y6], _ =>
    simp only [e0, e1, e2, List.drop_zero, List.take_succ_cons, List.take_zero, List.drop_succ_cons, List.getElem?_cons_zero, List.getElem?_cons_succ] at g0 g1 g2 g3 g4 g5 g6
    obtain ⟨s0, h0, _, z0⟩ := DataW.trod_string Tryz.underlying9 g0
    obtain ⟨i1, h1, _, z1⟩ := DataW.trod_int Tryz.underlying2 g1
    obtain ⟨a2, l2, k2, ss2, h2, z2⟩ := txts_of g2
    obtain ⟨a3, l3, k3, ss3, h3, z3⟩ := txts_of g3
    obtain ⟨i4, h4, _, z4⟩ := DataW.trod_int Tryz.underlying2 g4
    obtain ⟨s5, h5, _, z5⟩ := DataW.trod_string Tryz.underlying9 g5
    obtain ⟨s6, h6, _, z6⟩ := DataW.trod_string Tryz.underlying9 g6
    simp only [List.cons.injEq, and_true] at h0 h1 h2 h3 h4 h5 h6
    have r2 := z2.1
    have r3 := z3.1
    subst r2 r3
    exact ⟨⟨s0, i1, ss2, ss3, i4, s5, s6⟩, a2, k2, a3, k3, h0, h1, h2, h3, h4, h5, h6, z2, z3, z0, z5, z6, z1, z4⟩
theorem open_answer {H : Type} {enc : TypeId × Value → H} {W : World} {base : Nat} {v : Value} {d : DataW H} {ps : List MemPlace} (hval : Value.okWide Tryz.prog W .any base 50 v)
    (h : DataW.Trod enc Tryz.prog W 0 (fun _ => true) true 50 v d ps) : ∃ (o : Ans) (p1 : Option Addr) (c1 : Nat) (p2 : Option Addr) (c2 : Nat) (p3 : Option Addr) (c3 : Nat) (p4 : Option Addr) (c4 : Nat), v = .agg #[.string o.l1, .int .i64 o.i1, .int .i64 o.s1, .slice p1 o.p1.length c1, .string o.sh.k, .int .i64 o.sh.at_, .slice p2 o.sh.ns.length c2, .slice p3 o.sh.cs.length c3, .int .i64 o.sh.ix, .string o.sh.s, .string o.sh.v, .string o.l2, .int .i64 o.i2, .int .i64 o.s2, .slice p4 o.p2.length c4] ∧ IsAns W o p1 c1 p2 c2 p3 c3 p4 c4 := by
  obtain ⟨cs, rfl, hsz⟩ := okWide_struct Tryz.underlying50 hval
  have h2 : cs.size = 15 := hsz.trans (by kernel_rfl)
  obtain ⟨fuel, hf⟩ := h
  obtain ⟨xs, n, hk, hxy, hl, hxl, hf⟩ := DataW.trod_struct Tryz.underlying50 hf
  have e0 : Tryz.prog.cellsOf 47 = 4 := by kernel_rfl
  have e1 : Tryz.prog.cellsOf 48 = 7 := by kernel_rfl
  have g0 : DataW.trod enc Tryz.prog W 0 (fun _ => true) true n 47 ((cs.toList.drop 0).take (Tryz.prog.cellsOf 47)) = xs[0]? := hf 0 _ rfl
  have g1 : DataW.trod enc Tryz.prog W 0 (fun _ => true) true n 48 ((cs.toList.drop 4).take (Tryz.prog.cellsOf 48)) = xs[1]? := hf 1 _ rfl
  have g2 : DataW.trod enc Tryz.prog W 0 (fun _ => true) true n 47 ((cs.toList.drop 11).take (Tryz.prog.cellsOf 47)) = xs[2]? := hf 2 _ rfl
  clear hf
  match xs, hxl, cs, h2 with
  | [y0, y1, y2], _, ⟨[c0, c1, c2, c3, c4, c5, c6, c7, c8, c9, ca, cb, cc, cd, ce]⟩, _ =>
    simp only [e0, e1, List.drop_zero, List.take_succ_cons, List.take_zero, List.drop_succ_cons, List.getElem?_cons_zero, List.getElem?_cons_succ] at g0 g1 g2
    obtain ⟨l1, i1, s1, a1, k1, p1, r0, r1, r2, r3, u1⟩ := trod_proof g0
    obtain ⟨sh, b1, m1, b2, m2, r4, r5, r6, r7, r8, r9, ra, u2⟩ := trod_shown g1
    obtain ⟨l2, i2, s2, a2, k2, p2, rb, rc, rd, re, u3⟩ := trod_proof g2
    subst r0 r1 r2 r3 r4 r5 r6 r7 r8 r9 ra rb rc rd re
    obtain ⟨x1, x2, x3, x4, x5, x6, x7⟩ := u1
    obtain ⟨⟨-, t2, v2, w2, z2⟩, ⟨-, t3, v3, w3, z3⟩, f1, f2, f3, f4, f5⟩ := u2
    obtain ⟨y1, y2, y3, y4, y5, y6, y7⟩ := u3
    exact ⟨⟨l1, i1, s1, p1, sh, l2, i2, s2, p2⟩, a1, k1, b1, m1, b2, m2, a2, k2, rfl, ⟨x4, t2, t3, y4, x5, v2, v3, y5⟩, x1, y1, ⟨f1, z2, z3, f2, f3⟩, ⟨x2, x3, y2, y3⟩, ⟨x6, w2, w3, y6⟩, x7, y7⟩
end Go.Proofs.YthkmeneepkaedaaGreatDoor
