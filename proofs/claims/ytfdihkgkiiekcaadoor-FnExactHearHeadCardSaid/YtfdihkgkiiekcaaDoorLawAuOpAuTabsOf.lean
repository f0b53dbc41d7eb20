/-
  Parts of one proof, laid as one text: LawAu, OpAu, TabsOf; what each says stands at its head.
-/
import Derived.Test.YtfdihkgkiiekcaaDoorRows
import Derived.Test.YtfdihkgkiiekcaaDoorBytesDigMath
import Derived.Test.YtfdihkgkiiekcaaDoorSlASlBBxK
import Derived.Test.YtfdihkgkiiekcaaDoorLawSigLAudMathScanMath
import Derived.Handy
import Derived.WalkSpells
import Derived.OwnWalk
import Derived.WalkKit
import Derived.ProofKit
import Derived.OpenShut
import Derived.ShutString
import Derived.ChangeOld
import Derived.Below
import Derived.Test.YtfdihkgkiiekcaaDoorBlockI
import Derived.Lib.LaidTab
import Derived.Lib.LaidU8
/-
  What the laws' helpers szAuditor, toAuditor, eqAuditor and eqAuditorOut answer.
-/
namespace Go.Proofs.YtfdihkgkiiekcaaDoor
open Go.RowKit Go.Lib
set_option linter.unusedVariables false
set_option maxRecDepth 20000

set_option maxHeartbeats 1000000 in
theorem szAud_any (k : ByteArray) (s : Int) (r : ByteArray) (l0 : Int) (l00 : 0 ≤ l0) (l01 : l0 ≤ 1048576) (w : World) (hk : k.size ≤ maxLen) (hr : r.size ≤ maxLen) :
    Calls Tryd.prog 5 #[.agg #[.string k, .int .i64 s, .string r], .int .i64 l0] w fun e w' => (∃ m, e = .returned (.int .i64 m) ∧ (m = -1 ∨ (0 ≤ m ∧ m ≤ l0 ∧ k.size ≤ 1048576 ∧ r.size ≤ 1048576))) ∧ Below w.heap.size w w' := by
  unfold maxLen at hk hr
  obtain ⟨W1, hW1⟩ : ∃ W1, W1 = w.alloc (.cells #[.string k, .int .i64 s, .string r] 23) := ⟨_, rfl⟩
  have HW1 : Hid (W1 = w.alloc (.cells #[.string k, .int .i64 s, .string r] 23)) := hW1
  have B1 : Hid (Below w.heap.size w W1) := by rw [hW1]; exact (Below.refl _ _).alloc (Nat.le_refl _) _
  have K1 : Bxs W1 w.heap.size 23 #[.string k, .int .i64 s, .string r] := by rw [hW1]; exact Bxs.new _ _ _
  have t0 := K1.cell 0
  have t2 := K1.cell 2
  simp at t0 t2
  clear K1 hW1
  by_cases h1 : l0 - (k.size : Int) < 0
  case pos =>
    have d1 : decide (l0 - (k.size : Int) < 0) = true := decide_eq_true h1
    go_enter Tryd.func5, Tryd.ntmps5
    go_wp2_with fail
    try rw [← HW1.out]
    try go_wp2_with fail
    go_ret
    exact ⟨⟨-1, rfl, .inl rfl⟩, B1.out⟩
  have d1 : decide (l0 - (k.size : Int) < 0) = false := decide_eq_false h1
  by_cases h2 : l0 - (k.size : Int) - (r.size : Int) < 0
  case pos =>
    have d2 : decide (l0 - (k.size : Int) - (r.size : Int) < 0) = true := decide_eq_true h2
    go_enter Tryd.func5, Tryd.ntmps5
    go_wp2_with fail
    try rw [← HW1.out]
    try go_wp2_with fail
    go_ret
    exact ⟨⟨-1, rfl, .inl rfl⟩, B1.out⟩
  have d2 : decide (l0 - (k.size : Int) - (r.size : Int) < 0) = false := decide_eq_false h2
  have HF : Hid (0 ≤ l0 - (k.size : Int) - (r.size : Int) ∧ l0 - (k.size : Int) - (r.size : Int) ≤ l0 ∧ k.size ≤ 1048576 ∧ r.size ≤ 1048576) := ⟨by omega, by omega, by omega, by omega⟩
  go_enter Tryd.func5, Tryd.ntmps5
  go_wp2_with fail
  try rw [← HW1.out]
  try go_wp2_with fail
  go_ret
  exact ⟨⟨_, rfl, .inr HF.out⟩, B1.out⟩
set_option maxHeartbeats 1000000 in
theorem toAud_any (k : ByteArray) (s : Int) (r : ByteArray) (w : World) : Calls Tryd.prog 9 #[.agg #[.string k, .int .i64 s, .string r]] w fun e w' => e = .returned (.agg #[.string k, .int .i64 s, .string r]) ∧ Below w.heap.size w w' := by
  go_enter Tryd.func9, Tryd.ntmps9
  go_wp2_with fail
  refine bodyPost_ret (v := .agg #[.string k, .int .i64 s, .string r]) (by simp [results, Tryd.results9, go_sem]) rfl ?_
  exact ⟨rfl, alB (alB ((Below.refl _ _).alloc (Nat.le_refl _) _) _) _⟩
set_option maxHeartbeats 1000000 in
theorem eqAud_same (k : ByteArray) (s : Int) (r : ByteArray) (w : World) : Calls Tryd.prog 25 #[.agg #[.string k, .int .i64 s, .string r], .agg #[.string k, .int .i64 s, .string r]] w fun e w' => e = .returned (.bool true) ∧ Below w.heap.size w w' := by
  have B1 : Hid (Below w.heap.size w ((w.alloc (.cells #[.string k, .int .i64 s, .string r] 30)).alloc (.cells #[.string k, .int .i64 s, .string r] 30))) := alB ((Below.refl _ _).alloc (Nat.le_refl _) _) _
  go_enter Tryd.func25, Tryd.ntmps25
  go_wp2_with fail
  go_ret
  exact ⟨rfl, B1.out⟩
set_option maxHeartbeats 1000000 in
theorem eqAudO_same (k : ByteArray) (s : Int) (r : ByteArray) (c : Int) (w : World) : Calls Tryd.prog 13 #[.agg #[.string k, .int .i64 s, .string r, .int .i64 c], .agg #[.string k, .int .i64 s, .string r, .int .i64 c]] w fun e w' => e = .returned (.bool true) ∧ Below w.heap.size w w' := by
  obtain ⟨W1, hW1⟩ : ∃ W1, W1 = (w.alloc (.cells #[.string k, .int .i64 s, .string r, .int .i64 c] 32)).alloc (.cells #[.string k, .int .i64 s, .string r, .int .i64 c] 32) := ⟨_, rfl⟩
  have HW1 : Hid (W1 = (w.alloc (.cells #[.string k, .int .i64 s, .string r, .int .i64 c] 32)).alloc (.cells #[.string k, .int .i64 s, .string r, .int .i64 c] 32)) := hW1
  have B1 : Hid (Below w.heap.size w W1) := by rw [hW1]; exact alB ((Below.refl _ _).alloc (Nat.le_refl _) _) _
  have K1 : Hid (Bxs W1 w.heap.size 32 #[.string k, .int .i64 s, .string r, .int .i64 c]) := by rw [hW1]; exact (Bxs.new _ _ _).alloc _
  have K2 : Hid (Bxs W1 (w.heap.size + 1) 32 #[.string k, .int .i64 s, .string r, .int .i64 c]) := by
    rw [hW1]
    have h := Bxs.new (w.alloc (.cells #[.string k, .int .i64 s, .string r, .int .i64 c] 32)) 32 #[.string k, .int .i64 s, .string r, .int .i64 c]
    rwa [szA] at h
  obtain ⟨a0, a1, a2, a3⟩ := K1.out.four
  obtain ⟨c0, c1, c2, c3⟩ := K2.out.four
  have hE := eqAud_same k s r W1
  clear hW1
  go_enter Tryd.func13, Tryd.ntmps13
  go_wp2_with fail
  try rw [← HW1.out]
  try go_wp2_with fail
  with_reducible refine hE.mono ?_
  rintro e x ⟨rfl, b⟩
  clear a0 a1 a2 a3 c0 c1 c2 c3
  obtain ⟨a0, a1, a2, a3⟩ := (K1.out.below b).four
  obtain ⟨c0, c1, c2, c3⟩ := (K2.out.below b).four
  go_wp2_with fail
  go_ret
  exact ⟨rfl, chainB B1.out b⟩
end Go.Proofs.YtfdihkgkiiekcaaDoor
/-
  An Auditor that came in, as the walk is told of it.
-/
namespace Go.Proofs.YtfdihkgkiiekcaaDoor
open Go.ChangeShapes Go.WideShapes Go.ChangeAt Go.RowKit
open Go.ChangeMaps (open_string shut_string)
set_option linter.unusedVariables false
set_option maxRecDepth 100000

theorem open_auditor {H : Type} {enc : TypeId × Value → H} {W : World} {base : Nat} {v : Value} {d : DataW H} {ps : List MemPlace} (hval : Value.okWide Tryd.prog W .any base 23 v)
    (h : DataW.Trod enc Tryd.prog W 0 (fun _ => true) true 23 v d ps) : ∃ k s r, v = .agg #[.string k, .int .i64 s, .string r] ∧ (Lit.int .i64 s).wf = true ∧ k.size ≤ maxLen ∧ r.size ≤ maxLen := by
  obtain ⟨cs, rfl, hsz⟩ := okWide_struct Tryd.underlying23 hval
  have h2 : cs.size = 3 := hsz.trans (by kernel_rfl)
  obtain ⟨fuel, hf⟩ := h
  obtain ⟨xs, n, hk, hxy, hl, hxl, hf⟩ := DataW.trod_struct Tryd.underlying23 hf
  have e0 : Tryd.prog.cellsOf 2 = 1 := by kernel_rfl
  have e1 : Tryd.prog.cellsOf 9 = 1 := by kernel_rfl
  have g0 : DataW.trod enc Tryd.prog W 0 (fun _ => true) true n 9 ((cs.toList.drop 0).take (Tryd.prog.cellsOf 9)) = xs[0]? := hf 0 _ rfl
  have g1 : DataW.trod enc Tryd.prog W 0 (fun _ => true) true n 2 ((cs.toList.drop 1).take (Tryd.prog.cellsOf 2)) = xs[1]? := hf 1 _ rfl
  have g2 : DataW.trod enc Tryd.prog W 0 (fun _ => true) true n 9 ((cs.toList.drop 2).take (Tryd.prog.cellsOf 9)) = xs[2]? := hf 2 _ rfl
  clear hf
  match xs, hxl, cs, h2 with
  | [y0, y1, y2], _, ⟨[c0, c1, c2]⟩, _ =>
    simp only [e0, e1, List.drop_zero, List.take_succ_cons, List.take_zero, List.drop_succ_cons, List.getElem?_cons_zero, List.getElem?_cons_succ] at g0 g1 g2
    obtain ⟨s0, h0, _, z0⟩ := DataW.trod_string Tryd.underlying9 g0
    obtain ⟨i1, h1, _, z1⟩ := DataW.trod_int Tryd.underlying2 g1
    obtain ⟨s2, h2, _, z2⟩ := DataW.trod_string Tryd.underlying9 g2
    simp only [List.cons.injEq, and_true] at h0 h1 h2
    subst h0 h1 h2
    exact ⟨s0, i1, s2, rfl, z1, z0, z2⟩
end Go.Proofs.YtfdihkgkiiekcaaDoor
/-
  What the two listed tables give a walk: 'Tabs'.
-/
namespace Go.Proofs.YtfdihkgkiiekcaaDoor
open Go.RowKit Go.Lib
set_option linter.unusedVariables false

theorem g0 : Tryd.prog.globalNamed "loop.example/g00633/impl.firstState" = some 0 := by kernel_rfl
theorem g1 : Tryd.prog.globalNamed "loop.example/g00633/impl.roundNums" = some 1 := by kernel_rfl
theorem tab_of {W : World} {name : String} {zs : List Int} {g : Nat} {t : TypeId} {n : Nat} (hg : Tryd.prog.globalNamed name = some g) (hty : (Tryd.prog.globals[g]?).map (·.type) = some t) (ht : Tryd.prog.underlying t = some (.array n 97)) (hct : Tryd.prog.cellsOf t = n)
    (h : VarReads Tryd.prog W name (tabData .u32 zs)) (i : Nat) (hi : i < zs.length) : W.cell? ⟨g, i, none⟩ = some (.int .u32 (zs.getD i 0)) := by
  obtain ⟨g', t', cs, fuel, p, h1, h2, h3, h4⟩ := h
  obtain rfl := Option.some.inj (hg.symm.trans h1)
  obtain rfl := Option.some.inj (hty.symm.trans h2)
  refine TabIs.cell (P := Tryd.prog) (name := name) ?_ hg i hi
  unfold TabIs
  rw [h3, ← cells_of_tab ht Tryd.underlying97 (by kernel_rfl) hct h4]
theorem tabs_of {W : World} (h : laidMet Tryd.prog [("loop.example/g00633/impl.firstState", Rows.laid_loop_example_g00633_impl_firstState), ("loop.example/g00633/impl.roundNums", Rows.laid_loop_example_g00633_impl_roundNums)] W) : Tabs W := by
  have r0 : VarReads Tryd.prog W "loop.example/g00633/impl.firstState" (tabData .u32 startN) := laidMet.reads h (.head _)
  have r1 : VarReads Tryd.prog W "loop.example/g00633/impl.roundNums" (tabData .u32 keysN) := laidMet.reads h (.tail _ (.head _))
  have c0 := tab_of g0 (by kernel_rfl) (t := 107) (n := 8) (by kernel_rfl) (by kernel_rfl) r0
  have c1 := tab_of g1 (by kernel_rfl) (t := 111) (n := 64) (by kernel_rfl) (by kernel_rfl) r1
  exact ⟨World.block_lt_of_cell? W ⟨1, 0, none⟩ (c1 0 (by decide)), fun i hi => c1 i hi, fun i hi => c0 i hi⟩
end Go.Proofs.YtfdihkgkiiekcaaDoor
