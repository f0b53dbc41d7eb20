/-
  A Tomb that came in, as the walk is told of it.
-/
import Derived.Test.YtnomkcbcjaagmalRows
import Derived.Test.YtnomkcbcjaagmalTmbMath
import Derived.WalkKit
import Derived.ProofKit
import Derived.OpenShut
import Derived.ShutString
import Derived.ChangeOld
import Derived.Below
import Derived.Handy
namespace Go.Proofs.Ytnomkcbcjaagmal
open Go.ChangeShapes Go.WideShapes Go.ChangeAt Go.RowKit
set_option linter.unusedVariables false

theorem open_tomb {H : Type} {enc : TypeId × Value → H} {W : World} {base : Nat} {v : Value} {d : DataW H} {ps : List MemPlace} (hval : Value.okWide Try.prog W .any base 23 v)
    (h : DataW.Trod enc Try.prog W 0 (fun _ => true) true 23 v d ps) : ∃ T : Tmb, v = tmV T := by
  obtain ⟨cs, rfl, hsz⟩ := okWide_struct Try.underlying23 hval
  have h2 : cs.size = 4 := hsz.trans (by kernel_rfl)
  obtain ⟨fuel, hf⟩ := h
  obtain ⟨xs, n, hk, hxy, hl, hxl, hf⟩ := DataW.trod_struct Try.underlying23 hf
  have e0 : Try.prog.cellsOf 2 = 1 := by kernel_rfl
  have g0 : DataW.trod enc Try.prog W 0 (fun _ => true) true n 2 ((cs.toList.drop 0).take (Try.prog.cellsOf 2)) = xs[0]? := hf 0 _ rfl
  have g1 : DataW.trod enc Try.prog W 0 (fun _ => true) true n 2 ((cs.toList.drop 1).take (Try.prog.cellsOf 2)) = xs[1]? := hf 1 _ rfl
  have g2 : DataW.trod enc Try.prog W 0 (fun _ => true) true n 2 ((cs.toList.drop 2).take (Try.prog.cellsOf 2)) = xs[2]? := hf 2 _ rfl
  have g3 : DataW.trod enc Try.prog W 0 (fun _ => true) true n 2 ((cs.toList.drop 3).take (Try.prog.cellsOf 2)) = xs[3]? := hf 3 _ rfl
  clear hf
  match xs, hxl, cs, h2 with
  | [y0, y1, y2, y3], _, ⟨[c0, c1, c2, c3]⟩, _ =>
    simp only [e0, List.drop_zero, List.take_succ_cons, List.take_zero, List.drop_succ_cons, List.getElem?_cons_zero, List.getElem?_cons_succ] at g0 g1 g2 g3
    obtain ⟨i0, h0, _, z0⟩ := DataW.trod_int Try.underlying2 g0
    obtain ⟨i1, h1, _, z1⟩ := DataW.trod_int Try.underlying2 g1
    obtain ⟨i2, h2, _, z2⟩ := DataW.trod_int Try.underlying2 g2
    obtain ⟨i3, h3, _, z3⟩ := DataW.trod_int Try.underlying2 g3
    simp only [List.cons.injEq, and_true] at h0 h1 h2 h3
    subst h0 h1 h2 h3
    exact ⟨⟨i0, i1, i2, i3⟩, rfl⟩
end Go.Proofs.Ytnomkcbcjaagmal
