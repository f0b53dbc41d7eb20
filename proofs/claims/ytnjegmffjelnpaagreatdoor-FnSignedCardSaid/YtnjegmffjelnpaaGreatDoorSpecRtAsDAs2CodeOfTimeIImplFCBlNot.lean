/-
  Parts of one proof, laid as one text: SpecRt, AsD, As2, CodeOf, TimeI, ImplFC, BlNot; what each says stands at its head.
-/
import Derived.Test.YtnjegmffjelnpaaGreatDoorRows
import Derived.Test.YtnjegmffjelnpaaGreatDoorBytesDigMathTurnIWholeR
import Derived.Test.YtnjegmffjelnpaaGreatDoorSlABxKSlBOwnSSgnBOwnBPadI
import Derived.Test.YtnjegmffjelnpaaGreatDoorLgMathLgAtKLgAnsLgRtTakesFldIsFldC
import Derived.Test.YtnjegmffjelnpaaGreatDoorTreeMath
import Derived.Test.YtnjegmffjelnpaaGreatDoorPowerHalvesTreeTree2TreeHPathMathIncMathTaker
import Derived.Test.YtnjegmffjelnpaaGreatDoorMacMathPutMathJoinedDigITurn2
import Derived.Test.YtnjegmffjelnpaaGreatDoorPutNumAppSSrc
import Derived.Test.YtnjegmffjelnpaaGreatDoorTimeBPutTextFldMathFldRiseScanMath
import Derived.Test.YtnjegmffjelnpaaGreatDoorGetValGetTxtNumMathFldRdNumFromTmbMath
import Derived.Test.YtnjegmffjelnpaaGreatDoorSpecLr
import Derived.Handy
import Derived.WalkSpells
import Derived.OwnWalk
import Derived.Deep.RegionHeld3
import Derived.Deep.Cut
import Derived.WalkKit
import Derived.LaidEql
import Derived.Stop.Asserts
import Derived.RowKitTokens
import Derived.Test.YtnjegmffjelnpaaGreatDoorNameRight
import Derived.Test.YtnjegmffjelnpaaGreatDoorSignVImplRightIncISignIMDigAllSignIASignIB
import Derived.Laws.StructEq
import Derived.Deep.RegionWith
/-
  RootOf and HeadText, as the specification answers.
  Conditions: the cells hold the rows and leaves.
-/
namespace Go.Proofs.YtnjegmffjelnpaaGreatDoor
open Go.RowKit Go.Lib
set_option linter.unusedVariables false
set_option maxRecDepth 20000

set_option maxHeartbeats 2000000 in
theorem l09Head_any (p : Option Addr) (lv : List ByteArray) (cp : Nat) (q : Option Addr) (rs : List Rw) (cq : Nat) (now : Int) (w : World) (hA : LgAt p lv cp q rs cq w) (h100 : ∀ t ∈ lv, t.size ≤ 100) :
    Calls Tryz.prog 21 #[.agg #[.slice q rs.length cq, .slice p lv.length cp, .int .i64 now]] w fun e w' => e = .returned (.string (hdB lv)) ∧ Below w.heap.size w w' := by
  obtain ⟨W1, hW1⟩ : ∃ W1, W1 = w.alloc (.cells #[.slice q rs.length cq, .slice p lv.length cp, .int .i64 now] 26) := ⟨_, rfl⟩
  have HW1 : Hid (W1 = w.alloc (.cells #[.slice q rs.length cq, .slice p lv.length cp, .int .i64 now] 26)) := hW1
  have B1 : Hid (Below w.heap.size w W1) := by rw [hW1]; exact (Below.refl _ _).alloc (Nat.le_refl _) _
  have K1 : Hid (Bxs W1 w.heap.size 26 #[.slice q rs.length cq, .slice p lv.length cp, .int .i64 now]) := by rw [hW1]; exact Bxs.new _ _ _
  have hln := hA.ln
  have BR : Hid (Below W1.heap.size W1 W1.drew) := (Below.refl _ _).drew
  have HX : Hid (∀ x, Below W1.heap.size W1 x → x.cell? ⟨w.heap.size, 1, none⟩ = some (.slice p lv.length cp)) := fun x hb => (K1.out.below hb).cell 1
  have HN : Hid (∀ x, Below W1.heap.size W1 x → Calls Tryz.prog 59 #[.int .i64 (lv.length : Int)] x fun e w' => e = .returned (.string (putB (lv.length : Int))) ∧ Below W1.heap.size W1 w') := fun x hb => (specPutNum_any _ x (by omega) (by omega)).mono (by rintro e y ⟨rfl, b⟩; exact ⟨rfl, chainB hb b⟩)
  have HT : Hid (∀ x, Below W1.heap.size W1 x → Calls Tryz.prog 30 #[.slice p lv.length cp] x fun e w' => e = .returned (.string (treeB lv)) ∧ Below W1.heap.size W1 w') := fun x hb => (tree2_any lv.length p cp lv x rfl ((hA.tx.below B1.out).below hb) (by omega) hA.lc h100).mono (by rintro e y ⟨rfl, b⟩; exact ⟨rfl, chainB hb b⟩)
  have HP : Hid (∀ x, Below W1.heap.size W1 x → Calls Tryz.prog 60 #[.string (treeB lv)] x fun e w' => e = .returned (.string (putTextB (treeB lv))) ∧ Below W1.heap.size W1 w') := fun x hb => (specPutText_any _ x (by rw [treeB_size]; unfold maxLen; omega)).mono (by rintro e y ⟨rfl, b⟩; exact ⟨rfl, chainB hb b⟩)
  have hz1 : (putB (lv.length : Int)).size ≤ 10 := putB_size _
  have hz2 := putTextB_32 (treeB_size lv)
  unfold hdB
  clear hW1 hA h100
  generalize putTextB (treeB lv) = PT at *
  generalize treeB lv = TB at *
  generalize putB (lv.length : Int) = PN at *
  have hcc : ¬ (9223372036854775807 < PN.size + PT.size) := by omega
  go_enter Tryz.func21, Tryz.ntmps21
  go_upto_region 1 with fail
  rw [← HW1.out]
  clear HW1
  have z0 := BR.out
  refine wp_region_held_drew (S := (fun w' => w'.cell? ⟨w.heap.size, 1, none⟩ = some (.slice p lv.length cp))) (by kernel_rfl) (HX.out _ BR.out) (fun hHeld => ?_)
  refine take_at 0 (v := ?_) rfl (by kernel_rfl) (by kernel_rfl) (by kernel_rfl) (fun _ _ _ h => h) hHeld (Or.inl ⟨by rfl, ?_⟩) ?_
  rotate_left
  · (intro w hSw; (try dsimp only at hSw); go_simp; try with_reducible rfl)
  simp only [Act.put, List.setIfInBounds_toArray, List.set_cons_zero, List.set_cons_succ]
  refine take_at 1 (v := ?_) rfl (by kernel_rfl) (by kernel_rfl) (by kernel_rfl) (fun _ _ _ h => h) hHeld (Or.inl ⟨by rfl, ?_⟩) ?_
  rotate_left
  · (intro w hSw; (try dsimp only at hSw); go_simp; try with_reducible rfl)
  simp only [Act.put, List.setIfInBounds_toArray, List.set_cons_zero, List.set_cons_succ]
  refine take_at 2 (v := ?_) rfl (by kernel_rfl) (by kernel_rfl) (by kernel_rfl) (fun _ _ _ h => h) hHeld (Or.inl ⟨by rfl, ?_⟩) ?_
  rotate_left
  · (intro w hSw; (try dsimp only at hSw); go_simp; try with_reducible rfl)
  simp only [Act.put, List.setIfInBounds_toArray, List.set_cons_zero, List.set_cons_succ]
  refine take_at 4 (v := ?_) rfl (by kernel_rfl) (by kernel_rfl) (by kernel_rfl) (fun _ _ _ h => h) hHeld (Or.inl ⟨by rfl, ?_⟩) ?_
  rotate_left
  · (intro w hSw; (try dsimp only at hSw); go_simp; try with_reducible rfl)
  simp only [Act.put, List.setIfInBounds_toArray, List.set_cons_zero, List.set_cons_succ]
  refine take_at 5 (v := ?_) rfl (by kernel_rfl) (by kernel_rfl) (by kernel_rfl) (fun _ _ _ h => h) hHeld (Or.inl ⟨by rfl, ?_⟩) ?_
  rotate_left
  · (intro w hSw; (try dsimp only at hSw); go_simp; try with_reducible rfl)
  simp only [Act.put, List.setIfInBounds_toArray, List.set_cons_zero, List.set_cons_succ]
  refine ready_at 3 rfl (by kernel_rfl) (fun K hK => ?_)
  go_simp
  (go_at_call 59; with_reducible refine (HN.out _ z0).mono ?_; rintro e y1 ⟨rfl, z1⟩)
  refine hK.out _ _ (HX.out _ z1) (fun hHeld => ?_)
  clear hK K
  try simp only [Act.put, List.setIfInBounds_toArray, List.set_cons_zero, List.set_cons_succ]
  refine ready_at 6 rfl (by kernel_rfl) (fun K hK => ?_)
  go_simp
  (go_at_call 30; with_reducible refine (HT.out _ z1).mono ?_; rintro e y2 ⟨rfl, z3⟩)
  refine hK.out _ _ (HX.out _ z3) (fun hHeld => ?_)
  clear hK K
  try simp only [Act.put, List.setIfInBounds_toArray, List.set_cons_zero, List.set_cons_succ]
  refine ready_at 7 rfl (by kernel_rfl) (fun K hK => ?_)
  go_simp
  (go_at_call 60; with_reducible refine (HP.out _ z3).mono ?_; rintro e y3 ⟨rfl, z4⟩)
  refine hK.out _ _ (HX.out _ z4) (fun hHeld => ?_)
  clear hK K
  try simp only [Act.put, List.setIfInBounds_toArray, List.set_cons_zero, List.set_cons_succ]
  refine take_at 8 (v := ?_) rfl (by kernel_rfl) (by kernel_rfl) (by kernel_rfl) (fun _ _ _ h => h) hHeld (Or.inl ⟨by rfl, ?_⟩) ?_
  rotate_left
  · (intro w hSw; (try dsimp only at hSw); go_simp; try with_reducible rfl)
  simp only [Act.put, List.setIfInBounds_toArray, List.set_cons_zero, List.set_cons_succ]
  refine take_at 9 (v := ?_) rfl (by kernel_rfl) (by kernel_rfl) (by kernel_rfl) (fun _ _ _ h => h) hHeld (Or.inl ⟨by rfl, ?_⟩) ?_
  rotate_left
  · (intro w hSw; (try dsimp only at hSw); go_simp; try with_reducible rfl)
  simp only [Act.put, List.setIfInBounds_toArray, List.set_cons_zero, List.set_cons_succ]
  refine wpAnyH_done (by kernel_rfl) ?_ _
  go_wp2_with fail
  go_ret
  exact ⟨rfl, chainB B1.out z4⟩
set_option maxHeartbeats 2000000 in
theorem specHeadText_any (p : Option Addr) (lv : List ByteArray) (cp : Nat) (q : Option Addr) (rs : List Rw) (cq : Nat) (now : Int) (w : World) (hA : LgAt p lv cp q rs cq w) :
    Calls Tryz.prog 11 #[.agg #[.slice q rs.length cq, .slice p lv.length cp, .int .i64 now]] w fun e w' => e = .returned (.string (hdO rs lv now)) ∧ Below w.heap.size w w' := by
  obtain ⟨W1, hW1⟩ : ∃ W1, W1 = w.alloc (.cells #[.slice q rs.length cq, .slice p lv.length cp, .int .i64 now] 26) := ⟨_, rfl⟩
  have HW1 : Hid (W1 = w.alloc (.cells #[.slice q rs.length cq, .slice p lv.length cp, .int .i64 now] 26)) := hW1
  have B1 : Hid (Below w.heap.size w W1) := by rw [hW1]; exact (Below.refl _ _).alloc (Nat.le_refl _) _
  have K1 : Hid (Bxs W1 w.heap.size 26 #[.slice q rs.length cq, .slice p lv.length cp, .int .i64 now]) := by rw [hW1]; exact Bxs.new _ _ _
  have hR := specLogRight_any p lv cp q rs cq now W1 (hA.below B1.out)
  have HV : Hid (hdO rs lv now = if lgB rs lv now = true then hdB lv else ByteArray.empty) := rfl
  have HH : Hid (lgB rs lv now = true → ∀ x, Below w.heap.size w x → Calls Tryz.prog 21 #[.agg #[.slice q rs.length cq, .slice p lv.length cp, .int .i64 now]] x fun e w' => e = .returned (.string (hdB lv)) ∧ Below x.heap.size x w') := fun hg x hb => l09Head_any p lv cp q rs cq now x (hA.below hb) (lg_small hg)
  obtain ⟨x0, x1, x2⟩ : W1.cell? ⟨w.heap.size, 0, none⟩ = some (.slice q rs.length cq) ∧ W1.cell? ⟨w.heap.size, 1, none⟩ = some (.slice p lv.length cp) ∧ W1.cell? ⟨w.heap.size, 2, none⟩ = some (.int .i64 now) := ⟨K1.out.cell 0, K1.out.cell 1, K1.out.cell 2⟩
  rw [HW1.out] at x0 x1 x2
  clear hW1 hA
  cases hg : lgB rs lv now with
  | false =>
    rw [hg] at hR
    rw [hg, if_neg Bool.false_ne_true] at HV
    rw [HV.out]
    go_enter Tryz.func11, Tryz.ntmps11
    go_wp2_with fail
    rw [← HW1.out]
    refine hR.mono ?_
    rintro e y ⟨rfl, by_⟩
    go_wp2_with fail
    go_ret
    exact ⟨rfl, chainB B1.out by_⟩
  | true =>
    rw [hg] at hR
    rw [hg, if_pos rfl] at HV
    rw [HV.out]
    have HH2 : Hid (∀ x, Below w.heap.size w x → Calls Tryz.prog 21 #[.agg #[.slice q rs.length cq, .slice p lv.length cp, .int .i64 now]] x fun e w' => e = .returned (.string (hdB lv)) ∧ Below x.heap.size x w') := HH.out hg
    clear HH hg
    generalize hdB lv = HB at *
    go_enter Tryz.func11, Tryz.ntmps11
    go_wp2_with fail
    rw [← HW1.out]
    refine hR.mono ?_
    rintro e y ⟨rfl, by_⟩
    clear hR x0 x1 x2
    obtain ⟨x0, x1, x2⟩ : y.cell? ⟨w.heap.size, 0, none⟩ = some (.slice q rs.length cq) ∧ y.cell? ⟨w.heap.size, 1, none⟩ = some (.slice p lv.length cp) ∧ y.cell? ⟨w.heap.size, 2, none⟩ = some (.int .i64 now) := ⟨(K1.out.below by_).cell 0, (K1.out.below by_).cell 1, (K1.out.below by_).cell 2⟩
    have hH := HH2.out y (chainB B1.out by_)
    go_wp2_with fail
    refine hH.mono ?_
    rintro e y2 ⟨rfl, b2⟩
    go_wp2_with fail
    go_ret
    exact ⟨rfl, chainB (chainB B1.out by_) b2⟩
end Go.Proofs.YtnjegmffjelnpaaGreatDoor
/-
  errors.As at the target *wrongBytes, by its contracts: a nil error: false, nothing turns; an error that is a wrongBytes: true, and the target holds it; nothing else that was there turns. After the guide's worked example of errors.As.
  Conditions: the variable errors.errorType holds the handle of the type error; the target's cell is there and may be written.
-/
namespace Go.Proofs.YtnjegmffjelnpaaGreatDoor
open Go.RowKit Go.Extern.Stop Go.Stop Go.Extern

theorem as_nil (t : Value) (w : World) :
    Calls Tryz.prog 166 #[.nilIface, t] w fun e w' => e = .returned (.bool false) ∧ w' = w := by
  go_enter Tryz.func166, Tryz.ntmps166
  go_wp2
  go_ret
  exact ⟨rfl, rfl⟩

theorem valueOfP (t : Addr) (w : World) : (ReflectliteValue.unpack (.iface 197 (.pointer (some t)))).run Tryz.prog w
    = .ok (.agg #[.pointer (some ⟨3, 197, none⟩), .pointer (some ⟨w.heap.size, 0, none⟩), .int .u64 150]) (w.alloc (.cells #[.pointer (some t)] 197)) := by kernel_rfl
theorem typeP (a : Addr) (w : World) : (ReflectliteValue.methodAny (ReflectliteValue.valueError "reflectlite.Value.Type" 0) (fun t _ _ _ => ReflectliteType.toType t) #[.agg #[.pointer (some ⟨3, 197, none⟩), .pointer (some a), .int .u64 150]]).run Tryz.prog w
    = .ok (.iface 218 (.agg #[.pointer (some ⟨3, 197, none⟩)])) w := by kernel_rfl
theorem kindP (w : World) : ((ReflectliteType.abiMethod fun t => (fun a : Nat => Value.int IntKind.u8 (a : Int)) <$> Rtype.kind t) #[.pointer (some ⟨3, 197, none⟩)]).run Tryz.prog w = .ok (.int .u8 22) w := by kernel_rfl
theorem kindE (w : World) : ((ReflectliteType.abiMethod fun t => (fun a : Nat => Value.int IntKind.u8 (a : Int)) <$> Rtype.kind t) #[.pointer (some ⟨3, 193, none⟩)]).run Tryz.prog w = .ok (.int .u8 25) w := by kernel_rfl
theorem partsP (a : Addr) (w : World) : (ReflectliteValue.parts (.agg #[.pointer (some ⟨3, 197, none⟩), .pointer (some a), .int .u64 150])).run Tryz.prog w = .ok (some (197, a, 150)) w := by kernel_rfl
theorem isNilP (a p : Addr) (W : World) (ha : W.cell? a = some (.pointer (some p))) :
    (ReflectliteValue.method (ReflectliteValue.valueError "reflectlite.Value.IsNil" 0) ReflectliteValue.isNil #[.agg #[.pointer (some ⟨3, 197, none⟩), .pointer (some a), .int .u64 150]]).run Tryz.prog W = .ok (.bool false) W := by
  show (Sem.run Tryz.prog (ReflectliteValue.parts (.agg #[.pointer (some ⟨3, 197, none⟩), .pointer (some a), .int .u64 150]) >>= _) W) = _
  simp only [Sem.run_bind, partsP, Result.andThen]
  simp [ReflectliteValue.isNil, loadVar, isAgg, underlying, Tryz.underlying197, ha, Result.andThen]
theorem elemTP (w : World) : (ReflectliteType.method ReflectliteType.elem #[.agg #[.pointer (some ⟨3, 197, none⟩)]]).run Tryz.prog w = .ok (.iface 218 (.agg #[.pointer (some ⟨3, 193, none⟩)])) w := by kernel_rfl
theorem implementsE (w : World) : (ReflectliteType.relation "Implements" ReflectliteType.implements_ #[.agg #[.pointer (some ⟨3, 193, none⟩)], .iface 218 (.agg #[.pointer (some ⟨3, 187, none⟩)])]).run Tryz.prog w = .ok (.bool true) w := by kernel_rfl
theorem typeOfE (v : Value) (w : World) : (ReflectliteType.typeOf #[.iface 193 v]).run Tryz.prog w = .ok (.iface 218 (.agg #[.pointer (some ⟨3, 193, none⟩)])) w := by kernel_rfl
theorem assignableE (w : World) : (ReflectliteType.relation "AssignableTo" ReflectliteType.assignableTo #[.agg #[.pointer (some ⟨3, 193, none⟩)], .iface 218 (.agg #[.pointer (some ⟨3, 193, none⟩)])]).run Tryz.prog w = .ok (.bool true) w := by kernel_rfl
theorem valueOfE (c : Int) (w : World) : (ReflectliteValue.unpack (.iface 193 (.agg #[.int .i64 c]))).run Tryz.prog w
    = .ok (.agg #[.pointer (some ⟨3, 193, none⟩), .pointer (some ⟨w.heap.size, 0, none⟩), .int .u64 153]) (w.alloc (.cells #[.int .i64 c] 193)) := by kernel_rfl
theorem elemOfP (w : World) : (Rtype.elem? 197).run Tryz.prog w = .ok (some 193) w := by kernel_rfl
theorem mkE (p : Addr) (w : World) : (ReflectliteValue.mk 193 p ReflectliteValue.flagAddr).run Tryz.prog w = .ok (.agg #[.pointer (some ⟨3, 193, none⟩), .pointer (some p), .int .u64 409]) w := by kernel_rfl
theorem elemVP (a p : Addr) (W : World) (ha : W.cell? a = some (.pointer (some p))) :
    (ReflectliteValue.method (ReflectliteValue.valueError "reflectlite.Value.Elem" 0) ReflectliteValue.elem #[.agg #[.pointer (some ⟨3, 197, none⟩), .pointer (some a), .int .u64 150]]).run Tryz.prog W
      = .ok (.agg #[.pointer (some ⟨3, 193, none⟩), .pointer (some p), .int .u64 409]) W := by
  show (Sem.run Tryz.prog (ReflectliteValue.parts (.agg #[.pointer (some ⟨3, 197, none⟩), .pointer (some a), .int .u64 150]) >>= _) W) = _
  simp only [Sem.run_bind, partsP, Result.andThen]
  simp [ReflectliteValue.elem, loadVar, isAgg, underlying, Tryz.underlying197, ha, Result.andThen, elemOfP, mkE]

theorem partsEa (a : Addr) (w : World) : (ReflectliteValue.parts (.agg #[.pointer (some ⟨3, 193, none⟩), .pointer (some a), .int .u64 409])).run Tryz.prog w = .ok (some (193, a, 409)) w := by kernel_rfl
theorem partsE (a : Addr) (w : World) : (ReflectliteValue.parts (.agg #[.pointer (some ⟨3, 193, none⟩), .pointer (some a), .int .u64 153])).run Tryz.prog w = .ok (some (193, a, 153)) w := by kernel_rfl
theorem directE (w : World) : (Rtype.directlyAssignable 193 193).run Tryz.prog w = .ok true w := by kernel_rfl
theorem sizeE (w : World) : (sizeOf 193).run Tryz.prog w = .ok 1 w := by kernel_rfl
theorem isAggE (w : World) : (isAgg 193).run Tryz.prog w = .ok true w := by kernel_rfl
theorem setE (b1 b2 : Nat) (c : Int) (old : Value) (W : World) (hb : W.cell? ⟨b2, 0, none⟩ = some (.int .i64 c)) (ht : W.cell? ⟨b1, 0, none⟩ = some old) (hf : W.frozen? ⟨b1, 0, none⟩ = false) :
    (ReflectliteValue.set #[.agg #[.pointer (some ⟨3, 193, none⟩), .pointer (some ⟨b1, 0, none⟩), .int .u64 409], .agg #[.pointer (some ⟨3, 193, none⟩), .pointer (some ⟨b2, 0, none⟩), .int .u64 153]]).run Tryz.prog W
      = .ok (.tuple #[]) (W.setCell ⟨b1, 0, none⟩ (.int .i64 c)) := by
  show (Sem.run Tryz.prog (ReflectliteValue.parts (.agg #[.pointer (some ⟨3, 193, none⟩), .pointer (some ⟨b1, 0, none⟩), .int .u64 409]) >>= fun x => ReflectliteValue.parts (.agg #[.pointer (some ⟨3, 193, none⟩), .pointer (some ⟨b2, 0, none⟩), .int .u64 153]) >>= _) W) = _
  simp only [Sem.run_bind, partsEa, partsE, Result.andThen]
  simp [ReflectliteValue.flagAddr, loadVar, Result.andThen, directE, storeVar, Value.cells, storeCells, Addr.add]
  have hl : (loadCells ⟨b2, 0, none⟩ 1).run Tryz.prog W = .ok #[.int .i64 c] W := by
    have := run_loadCells (P := Tryz.prog) W ⟨b2, 0, none⟩ 1 (fun _ => .int .i64 c) (fun j hj => by
      obtain rfl : j = 0 := by omega
      simpa [Addr.add] using hb)
    simpa using this
  rw [hl]
  simp [storeCells, Addr.add]
  rw [run_store Tryz.prog W ⟨b1, 0, none⟩ _ _ (by rfl)]
  simp [ht, hf]
end Go.Proofs.YtnjegmffjelnpaaGreatDoor
/-
  errors.As at the target *wrongBytes, and what codeOf answers. After the guide's worked example of errors.As.
  Conditions: the variable errors.errorType holds the handle of the type error; the target's cell is there and may be written.
-/
namespace Go.Proofs.YtnjegmffjelnpaaGreatDoor
open Go.RowKit Go.Extern.Stop Go.Stop Go.Extern

def etv : Value := .iface 218 (.agg #[.pointer (some ⟨3, 187, none⟩)])

set_option maxHeartbeats 4000000 in
theorem as_hit (c : Int) (tb : Nat) (old : Value) (w : World) (hg : w.cell? ⟨2, 0, none⟩ = some (.iface 218 (.agg #[.pointer (some ⟨3, 187, none⟩)]))) (ht0 : w.cell? ⟨tb, 0, none⟩ = some old) (hf0 : w.frozen? ⟨tb, 0, none⟩ = false) :
    Calls Tryz.prog 166 #[.iface 193 (.agg #[.int .i64 c]), .iface 197 (.pointer (some ⟨tb, 0, none⟩))] w fun ev w' => ev = .returned (.bool true) ∧ w' = ((((w.alloc (.cells #[.pointer (some ⟨tb, 0, none⟩)] 197)).alloc (.cells #[.pointer (some ⟨3, 197, none⟩), .pointer (some ⟨w.heap.size, 0, none⟩), .int .u64 150] 205)).alloc (.cells #[.pointer (some ⟨3, 197, none⟩), .pointer (some ⟨w.heap.size, 0, none⟩), .int .u64 150] 205)).alloc (.cells #[.int .i64 c] 193)).setCell ⟨tb, 0, none⟩ (.int .i64 c) := by
  have h6 := @run_callFunc_extern Tryz.prog 171 _ (fun args => ReflectliteValue.unpack (args.getD 0 (.tuple #[]))) Tryz.func171 (by kernel_rfl) (by kernel_rfl) (by kernel_rfl) (by kernel_rfl)
  have h7 := @run_callFunc_extern Tryz.prog 172 _ (ReflectliteValue.methodAny (ReflectliteValue.valueError "reflectlite.Value.Type" 0) (fun t _ _ _ => ReflectliteType.toType t)) Tryz.func172 (by kernel_rfl) (by kernel_rfl) (by kernel_rfl) (by kernel_rfl)
  have h8 := @run_callFunc_extern Tryz.prog 173 _ (ReflectliteValue.method (ReflectliteValue.valueError "reflectlite.Value.IsNil" 0) ReflectliteValue.isNil) Tryz.func173 (by kernel_rfl) (by kernel_rfl) (by kernel_rfl) (by kernel_rfl)
  have h27 := @run_callFunc_extern Tryz.prog 211 _ (ReflectliteType.abiMethod fun t => do pure (.int .u8 (← Rtype.kind t))) Tryz.func211 (by kernel_rfl) (by kernel_rfl) (by kernel_rfl) (by kernel_rfl)
  have h37 := @run_callFunc_extern Tryz.prog 221 _ (ReflectliteType.method ReflectliteType.elem) Tryz.func221 (by kernel_rfl) (by kernel_rfl) (by kernel_rfl) (by kernel_rfl)
  have h38 := @run_callFunc_extern Tryz.prog 222 _ (ReflectliteType.relation "Implements" ReflectliteType.implements_) Tryz.func222 (by kernel_rfl) (by kernel_rfl) (by kernel_rfl) (by kernel_rfl)
  have h10 := @run_callFunc_extern Tryz.prog 179 _ ReflectliteType.typeOf Tryz.func179 (by kernel_rfl) (by kernel_rfl) (by kernel_rfl) (by kernel_rfl)
  have h35 := @run_callFunc_extern Tryz.prog 219 _ (ReflectliteType.relation "AssignableTo" ReflectliteType.assignableTo) Tryz.func219 (by kernel_rfl) (by kernel_rfl) (by kernel_rfl) (by kernel_rfl)
  have h11 := @run_callFunc_extern Tryz.prog 180 _ (ReflectliteValue.method (ReflectliteValue.valueError "reflectlite.Value.Elem" 0) ReflectliteValue.elem) Tryz.func180 (by kernel_rfl) (by kernel_rfl) (by kernel_rfl) (by kernel_rfl)
  have h12 := @run_callFunc_extern Tryz.prog 181 _ ReflectliteValue.set Tryz.func181 (by kernel_rfl) (by kernel_rfl) (by kernel_rfl) (by kernel_rfl)
  have tO := typeOfE
  have aE := assignableE
  have vE := valueOfE
  have f6 := valueOfP
  have f7 := typeP
  have kP := kindP
  have kE := kindE
  have eP := elemTP
  have iE := implementsE
  have n8 := isNilP ⟨w.heap.size, 0, none⟩ ⟨tb, 0, none⟩ ((w.alloc (.cells #[.pointer (some ⟨tb, 0, none⟩)] 197)).alloc (.cells #[.pointer (some ⟨3, 197, none⟩), .pointer (some ⟨w.heap.size, 0, none⟩), .int .u64 150] 205)) (by simp)
  have hlt : 2 < w.heap.size := World.block_lt_of_cell? w _ hg
  have hg2 : ((w.alloc (.cells #[.pointer (some ⟨tb, 0, none⟩)] 197)).alloc (.cells #[.pointer (some ⟨3, 197, none⟩), .pointer (some ⟨w.heap.size, 0, none⟩), .int .u64 150] 205)).cell? ⟨2, 0, none⟩ = some (.iface 218 (.agg #[.pointer (some ⟨3, 187, none⟩)])) := by
    rw [World.cell?_alloc_lt _ _ ⟨2, 0, none⟩ (by simp <;> omega), World.cell?_alloc_lt _ _ ⟨2, 0, none⟩ hlt]; exact hg
  have htl : tb < w.heap.size := by
    rcases Nat.lt_or_ge tb w.heap.size with h | h
    · exact h
    · simp [World.cell?, Array.getElem?_eq_none h] at ht0
  have el := elemVP ⟨w.heap.size, 0, none⟩ ⟨tb, 0, none⟩ (((w.alloc (.cells #[.pointer (some ⟨tb, 0, none⟩)] 197)).alloc (.cells #[.pointer (some ⟨3, 197, none⟩), .pointer (some ⟨w.heap.size, 0, none⟩), .int .u64 150] 205)).alloc (.cells #[.pointer (some ⟨3, 197, none⟩), .pointer (some ⟨w.heap.size, 0, none⟩), .int .u64 150] 205)) (by rw [World.cell?_alloc_lt _ _ ⟨w.heap.size, 0, none⟩ (by simp; omega)]; simp)
  have st := setE tb (w.heap.size + 1 + 1 + 1) c old ((((w.alloc (.cells #[.pointer (some ⟨tb, 0, none⟩)] 197)).alloc (.cells #[.pointer (some ⟨3, 197, none⟩), .pointer (some ⟨w.heap.size, 0, none⟩), .int .u64 150] 205)).alloc (.cells #[.pointer (some ⟨3, 197, none⟩), .pointer (some ⟨w.heap.size, 0, none⟩), .int .u64 150] 205)).alloc (.cells #[.int .i64 c] 193))
    (by rw [World.cell?_alloc_at _ _ _ _ (by simp)]; rfl)
    (by rw [World.cell?_alloc_lt _ _ ⟨tb, 0, none⟩ (by simp; omega), World.cell?_alloc_lt _ _ ⟨tb, 0, none⟩ (by simp; omega), World.cell?_alloc_lt _ _ ⟨tb, 0, none⟩ (by simp; omega), World.cell?_alloc_lt _ _ ⟨tb, 0, none⟩ htl]; exact ht0)
    (by rw [World.frozen?_alloc_old _ _ ⟨tb, 0, none⟩ (by simp; omega), World.frozen?_alloc_old _ _ ⟨tb, 0, none⟩ (by simp; omega), World.frozen?_alloc_old _ _ ⟨tb, 0, none⟩ (by simp; omega), World.frozen?_alloc_old _ _ ⟨tb, 0, none⟩ (Nat.ne_of_lt htl)]; exact hf0)
  go_enter Tryz.func166, Tryz.ntmps166
  go_wp2
  refine wp_loop_rounds 1 ?_
  rw [rounds_succ]
  go_wp2
  go_ret
  exact ⟨rfl, rfl⟩
end Go.Proofs.YtnjegmffjelnpaaGreatDoor
/-
  What codeOf answers: 0 of a nil error, the code of a wrongBytes. Nothing that was there turns.
  Conditions: the variable errors.errorType holds the handle of the type error.
-/
namespace Go.Proofs.YtnjegmffjelnpaaGreatDoor
open Go.RowKit Go.Extern.Stop Go.Stop Go.Extern

/-- The variable errors.errorType as the program's text lays it. -/
def Laid (w : World) : Prop := w.cell? ⟨2, 0, none⟩ = some (.iface 218 (.agg #[.pointer (some ⟨3, 187, none⟩)]))
theorem Laid.pos {w : World} (h : Laid w) : 2 < w.heap.size := World.block_lt_of_cell? w _ h
theorem Laid.below {w w' : World} (h : Laid w) (hb : Below w.heap.size w w') : Laid w' := by
  unfold Laid; rw [hb.cell (p := ⟨2, 0, none⟩) h.pos]; exact h

def errV (c : Int) : Value := .iface 193 (.agg #[.int .i64 c])

set_option maxHeartbeats 1000000 in
theorem codeOf_nil (w : World) :
    Calls Tryz.prog 161 #[.nilIface] w fun e w' => e = .returned (.int .i64 0) ∧ Below w.heap.size w w' := by
  go_enter Tryz.func161, Tryz.ntmps161
  go_wp2_with (go_at_call 166; refine (as_nil _ _).mono ?_; rintro e w' ⟨rfl, hw⟩; subst hw)
  go_ret
  exact ⟨rfl, (Below.refl _ _).alloc (Nat.le_refl _) _⟩

set_option maxHeartbeats 1000000 in
theorem codeOf_hit (c : Int) (w : World) (hg : Laid w) :
    Calls Tryz.prog 161 #[.iface 193 (.agg #[.int .i64 c])] w fun e w' => e = .returned (.int .i64 c) ∧ Below w.heap.size w w' := by
  have hlt := hg.pos
  have hgA : (w.alloc (.cells #[.int .i64 0] 193)).cell? ⟨2, 0, none⟩ = some (.iface 218 (.agg #[.pointer (some ⟨3, 187, none⟩)])) := by
    rw [World.cell?_alloc_lt _ _ ⟨2, 0, none⟩ hlt]; exact hg
  have htA : (w.alloc (.cells #[.int .i64 0] 193)).cell? ⟨w.heap.size, 0, none⟩ = some (.int .i64 0) := by simp
  have hfA : (w.alloc (.cells #[.int .i64 0] 193)).frozen? ⟨w.heap.size, 0, none⟩ = false := by simp
  have HA : Hid (Laid w) := hg
  clear hg
  go_enter Tryz.func161, Tryz.ntmps161
  go_wp2_with (go_at_call 166; refine (as_hit _ _ (.int .i64 0) _ hgA htA hfA).mono ?_; rintro e w' ⟨rfl, hw⟩; subst hw)
  go_ret
  exact ⟨rfl, by go_grown⟩
end Go.Proofs.YtnjegmffjelnpaaGreatDoor
/-
  What the program's timeRight answers.
-/
namespace Go.Proofs.YtnjegmffjelnpaaGreatDoor
open Go.RowKit Go.Lib
set_option linter.unusedVariables false
set_option maxRecDepth 20000

theorem timeRight_any (n : Int) (w : World) : Calls Tryz.prog 88 #[.int .i64 n] w fun e w' => e = .returned (.bool (timeB n)) ∧ w' = w := by
  unfold timeB
  by_cases h1 : 0 ≤ n
  · have d1 : decide (0 ≤ n) = true := decide_eq_true h1
    by_cases h2 : n ≤ 1000000
    · have d2 : decide (n ≤ 1000000) = true := decide_eq_true h2
      rw [decide_eq_true (And.intro h1 h2)]
      clear h1 h2
      go_enter Tryz.func88, Tryz.ntmps88
      go_wp2_with fail
      go_ret
      exact ⟨rfl, rfl⟩
    · have d2 : decide (n ≤ 1000000) = false := decide_eq_false h2
      rw [decide_eq_false (fun h => h2 h.2)]
      clear h1 h2
      go_enter Tryz.func88, Tryz.ntmps88
      go_wp2_with fail
      go_ret
      exact ⟨rfl, rfl⟩
  · have d1 : decide (0 ≤ n) = false := decide_eq_false h1
    rw [decide_eq_false (fun h => h1 h.1)]
    clear h1
    go_enter Tryz.func88, Tryz.ntmps88
    go_wp2_with fail
    go_ret
    exact ⟨rfl, rfl⟩
end Go.Proofs.YtnjegmffjelnpaaGreatDoor
/-
  What the program's goneField, presentField, timeRight, CommitOf and FieldRight answer; two fields compared as wholes.
  Conditions: the two tables of the digest lie as laid.
-/
namespace Go.Proofs.YtnjegmffjelnpaaGreatDoor
open Go.RowKit Go.Lib
set_option linter.unusedVariables false
set_option maxRecDepth 20000

/-- A field as a value. -/
def fv5 (n c s v : ByteArray) (g : Bool) : Value := .agg #[.string n, .string c, .string s, .string v, .bool g]
def eqF (n c s v : ByteArray) (g : Bool) (n' c' s' v' : ByteArray) (g' : Bool) : Bool := (n.toList == n'.toList) && ((c.toList == c'.toList) && ((s.toList == s'.toList) && ((v.toList == v'.toList) && (g == g'))))
theorem eql_fld (n c s v : ByteArray) (g : Bool) (n' c' s' v' : ByteArray) (g' : Bool) (w : World) : (binOp .eql 76 (.agg #[.string n, .string c, .string s, .string v, .bool g]) (.agg #[.string n', .string c', .string s', .string v', .bool g'])).run Tryz.prog w = .ok (.bool (eqF n c s v g n' c' s' v' g')) w := by
  unfold eqF
  rw [run_eql_struct, run_equalIn_agg w 9999 76 _ _ (by kernel_rfl) (by kernel_rfl)]
  have hF : Tryz.prog.fieldsOf 76 = Tryz.prog.fieldsOf 76 := rfl
  conv at hF => rhs; simp only [Program.fieldsOf, Tryz.underlying76]
  rw [hF]
  cases h1 : n.toList == n'.toList <;> cases h2 : c.toList == c'.toList <;> cases h3 : s.toList == s'.toList <;> cases h4 : v.toList == v'.toList <;> cases h5 : g == g' <;>
    simp [go_sem, Op.eqFields, h1, h2, h3, h4, h5]
theorem eqF_gone (n c s v : ByteArray) : eqF n c s v true n c ByteArray.empty ByteArray.empty true = (emB s && emB v) := by
  unfold eqF emB; simp
theorem eqF_there (n c s v C : ByteArray) : eqF n c s v false n C s v false = (c.toList == C.toList) := by
  unfold eqF; simp
theorem Tabs.to {w w' : World} (h : Tabs w) (hb : Below w.heap.size w w') : Tabs w' := h.below hb h.1
theorem goneField_any (n c : ByteArray) (w : World) : Calls Tryz.prog 150 #[.string n, .string c] w fun e w' => e = .returned (.agg #[.string n, .string c, .string ByteArray.empty, .string ByteArray.empty, .bool true]) ∧ Below w.heap.size w w' := by
  have B1 : Below w.heap.size w (w.alloc (.cells #[.string n, .string c, .string ByteArray.empty, .string ByteArray.empty, .bool true] 76)) := (Below.refl _ _).alloc (Nat.le_refl _) _
  go_enter Tryz.func150, Tryz.ntmps150
  go_wp2_with fail
  refine bodyPost_ret (v := .agg #[.string n, .string c, .string ByteArray.empty, .string ByteArray.empty, .bool true]) (by simp [results, Tryz.results150, go_sem]; rfl) rfl ?_
  exact ⟨rfl, B1⟩
theorem digFour_any (A B C : ByteArray) (w : World) (hT : Tabs w) (h1 : A.size ≤ 2000) (h2 : B.size ≤ 2000) (h3 : C.size ≤ 2000) :
    Calls Tryz.prog 25 #[.slice (some ⟨w.heap.size, 0, none⟩) 4 4] (w.alloc (.cells #[.string ⟨#[2]⟩, .string A, .string B, .string C] 9)) fun e w' => e = .returned (.string (digB (two1 ++ A ++ B ++ C))) ∧ Below w.heap.size w w' := by
  have hc : cat [two1, A, B, C] = two1 ++ A ++ B ++ C := by apply ByteArray.ext; simp [cat]
  have hb : BlkS (w.alloc (.cells #[.string ⟨#[2]⟩, .string A, .string B, .string C] 9)) w.heap.size [two1, A, B, C] := alloc_str w [two1, A, B, C]
  have b1 : Below w.heap.size w (w.alloc (.cells #[.string ⟨#[2]⟩, .string A, .string B, .string C] 9)) := (Below.refl _ _).alloc (Nat.le_refl _) _
  have h := digAll_any w.heap.size 4 [two1, A, B, C] _ (hT.to b1) hb (by simp) (by simp) (by rw [hc]; simp only [ByteArray.size_append]; show 1 + _ + _ + _ ≤ _; omega)
  rw [hc] at h
  refine Calls.mono h ?_
  rintro e w' ⟨he, hb'⟩
  exact ⟨he, chainB b1 hb'⟩
set_option maxHeartbeats 1000000 in
theorem implCommitOf_any (n s v : ByteArray) (w : World) (hT : Tabs w) (hn : n.size ≤ maxLen) (hs : s.size ≤ maxLen) (hv : v.size ≤ maxLen) : Calls Tryz.prog 158 #[.string n, .string s, .string v] w fun e w' => e = .returned (.string (cmB n s v)) ∧ Below w.heap.size w w' := by
  have hN := implNameRight_any n w hn
  have HTb : Hid (Tabs w) := hT
  clear hT
  unfold maxLen at hn hs hv
  cases hk : nrB n with
  | false =>
    have HV : Hid (cmB n s v = ByteArray.empty) := if_neg (by unfold cmOk; rw [hk]; exact Bool.false_ne_true)
    rw [hk] at hN
    rw [HV.out]
    go_enter Tryz.func158, Tryz.ntmps158
    go_wp2_with fail
    refine hN.mono ?_
    rintro e w1 ⟨rfl, rfl⟩
    go_wp2_with fail
    go_ret
    exact ⟨rfl, Below.refl _ _⟩
  | true =>
  rw [hk] at hN
  by_cases h1 : s.size < 1
  · have HV : Hid (cmB n s v = ByteArray.empty) := if_neg (by unfold cmOk; rw [decide_eq_false (by omega)]; simp)
    have d1 : decide ((s.size : Int) < 1) = true := decide_eq_true (by omega)
    rw [HV.out]
    go_enter Tryz.func158, Tryz.ntmps158
    go_wp2_with fail
    refine hN.mono ?_
    rintro e w1 ⟨rfl, rfl⟩
    go_wp2_with fail
    go_ret
    exact ⟨rfl, Below.refl _ _⟩
  have d1 : decide ((s.size : Int) < 1) = false := decide_eq_false (by omega)
  by_cases h2 : 8 < s.size
  · have HV : Hid (cmB n s v = ByteArray.empty) := if_neg (by unfold cmOk; rw [decide_eq_false (p := 1 ≤ s.size ∧ s.size ≤ 8) (by omega)]; simp)
    have d2 : decide (8 < (s.size : Int)) = true := decide_eq_true (by omega)
    rw [HV.out]
    go_enter Tryz.func158, Tryz.ntmps158
    go_wp2_with fail
    refine hN.mono ?_
    rintro e w1 ⟨rfl, rfl⟩
    go_wp2_with fail
    go_ret
    exact ⟨rfl, Below.refl _ _⟩
  have d2 : decide (8 < (s.size : Int)) = false := decide_eq_false (by omega)
  by_cases h3 : 16 < v.size
  · have HV : Hid (cmB n s v = ByteArray.empty) := if_neg (by unfold cmOk; rw [decide_eq_false (p := v.size ≤ 16) (by omega)]; simp)
    have d3 : decide (16 < (v.size : Int)) = true := decide_eq_true (by omega)
    rw [HV.out]
    go_enter Tryz.func158, Tryz.ntmps158
    go_wp2_with fail
    refine hN.mono ?_
    rintro e w1 ⟨rfl, rfl⟩
    go_wp2_with fail
    go_ret
    exact ⟨rfl, Below.refl _ _⟩
  have d3 : decide (16 < (v.size : Int)) = false := decide_eq_false (by omega)
  have HV : Hid (cmB n s v = digB (cmT n s v)) := if_pos (by unfold cmOk; rw [hk, decide_eq_true (p := 1 ≤ s.size ∧ s.size ≤ 8) (by omega), decide_eq_true (p := v.size ≤ 16) (by omega)]; rfl)
  have hn20 := nrB_le hk
  have t1 := putTextB_le n (by omega)
  have t2 := putTextB_le s (by omega)
  have t3 := putTextB_le v (by omega)
  have HN : Hid (∀ x, Calls Tryz.prog 47 #[.string n] x fun e w' => e = .returned (.string (putTextB n)) ∧ Below x.heap.size x w') := fun x => implPutText_any n x (by unfold maxLen; omega)
  have HS : Hid (∀ x, Calls Tryz.prog 47 #[.string s] x fun e w' => e = .returned (.string (putTextB s)) ∧ Below x.heap.size x w') := fun x => implPutText_any s x (by unfold maxLen; omega)
  have HVv : Hid (∀ x, Calls Tryz.prog 47 #[.string v] x fun e w' => e = .returned (.string (putTextB v)) ∧ Below x.heap.size x w') := fun x => implPutText_any v x (by unfold maxLen; omega)
  have HT : Hid (cmT n s v = two1 ++ putTextB n ++ putTextB s ++ putTextB v) := rfl
  have HD : Hid (∀ x, Tabs x → Calls Tryz.prog 25 #[.slice (some ⟨x.heap.size, 0, none⟩) 4 4] (x.alloc (.cells #[.string ⟨#[2]⟩, .string (putTextB n), .string (putTextB s), .string (putTextB v)] 9)) fun e w' => e = .returned (.string (digB (cmT n s v))) ∧ Below x.heap.size x w') := fun x hx => by
    rw [HT.out]
    exact digFour_any _ _ _ x hx (by omega) (by omega) (by omega)
  rw [HV.out]
  clear HT HV
  generalize digB (cmT n s v) = O at *
  generalize putTextB n = A at *
  generalize putTextB s = B at *
  generalize putTextB v = C at *
  clear hk h1 h2 h3 hn20 t1 t2 t3
  go_enter Tryz.func158, Tryz.ntmps158
  go_wp2_with fail
  refine hN.mono ?_
  rintro e w1 ⟨rfl, rfl⟩
  go_wp2_with fail
  refine (HN.out w1).mono ?_
  rintro e w2 ⟨rfl, b2⟩
  go_wp2_with fail
  refine (HS.out w2).mono ?_
  rintro e w3 ⟨rfl, b3⟩
  have b3 := chainB b2 b3
  go_wp2_with fail
  refine (HVv.out w3).mono ?_
  rintro e w4 ⟨rfl, b4⟩
  have b4 := chainB b3 b4
  go_wp2_with fail
  refine (HD.out w4 (HTb.out.to b4)).mono ?_
  rintro e w5 ⟨rfl, b5⟩
  have b5 := chainB b4 b5
  go_wp2_with fail
  go_ret
  exact ⟨rfl, b5⟩
set_option maxHeartbeats 1000000 in
theorem presentField_any (n s v : ByteArray) (w : World) (hT : Tabs w) (hn : n.size ≤ maxLen) (hs : s.size ≤ maxLen) (hv : v.size ≤ maxLen) : Calls Tryz.prog 151 #[.string n, .string s, .string v] w fun e w' => e = .returned (.agg #[.string n, .string (cmB n s v), .string s, .string v, .bool false]) ∧ Below w.heap.size w w' := by
  obtain ⟨W1, hW1⟩ : ∃ W1, W1 = w.alloc (.cells #[.string ⟨#[]⟩, .string ⟨#[]⟩, .string ⟨#[]⟩, .string ⟨#[]⟩, .bool false] 76) := ⟨_, rfl⟩
  have HW1 : Hid (W1 = w.alloc (.cells #[.string ⟨#[]⟩, .string ⟨#[]⟩, .string ⟨#[]⟩, .string ⟨#[]⟩, .bool false] 76)) := hW1
  have B1 : Hid (Below w.heap.size w W1) := by rw [hW1]; exact (Below.refl _ _).alloc (Nat.le_refl _) _
  have K1 : Hid (Bxs W1 w.heap.size 76 #[.string ⟨#[]⟩, .string ⟨#[]⟩, .string ⟨#[]⟩, .string ⟨#[]⟩, .bool false]) := by rw [hW1]; exact Bxs.new _ _ _
  have hC := implCommitOf_any n s v W1 (hT.to B1.out) hn hs hv
  have HP : Hid (∀ y x0 x1 x2 x3 x4, Below W1.heap.size W1 y → Below w.heap.size w (((((y.setCell ⟨w.heap.size, 0, none⟩ x0).setCell ⟨w.heap.size, 1, none⟩ x1).setCell ⟨w.heap.size, 2, none⟩ x2).setCell ⟨w.heap.size, 3, none⟩ x3).setCell ⟨w.heap.size, 4, none⟩ x4)) := fun y x0 x1 x2 x3 x4 hb => below_set5 (chainB B1.out hb) (Nat.le_refl _) x0 x1 x2 x3 x4
  clear hW1 hT
  generalize cmB n s v = O at *
  go_enter Tryz.func151, Tryz.ntmps151
  go_wp2_with fail
  rw [← HW1.out]
  refine hC.mono ?_
  rintro e y ⟨rfl, b1⟩
  have K2 := K1.out.below b1
  obtain ⟨k0, k1, k2, k3, k4⟩ := K2.five
  have f0 := K2.fr 0
  have f1 := K2.fr 1
  have f2 := K2.fr 2
  have f3 := K2.fr 3
  have f4 := K2.fr 4
  have HE := fun x0 x1 x2 x3 x4 => HP.out y x0 x1 x2 x3 x4 b1
  clear K2 HP b1
  go_wp2_with fail
  refine bodyPost_ret (v := .agg #[.string n, .string O, .string s, .string v, .bool false]) (by simp [results, Tryz.results151, go_sem, k0, k1, k2, k3, k4]) rfl ?_
  exact ⟨rfl, HE _ _ _ _ _⟩
/-- areDigests of one text, laid into a new row. -/
theorem areOne_any (c : ByteArray) (w : World) : Calls Tryz.prog 23 #[.slice (some ⟨w.heap.size, 0, none⟩) 1 1] (w.alloc (.cells #[.string c] 9)) fun e w' => e = .returned (.bool (decide (c.size = 32))) ∧ Below w.heap.size w w' := by
  have hb : BlkS (w.alloc (.cells #[.string c] 9)) w.heap.size [c] := alloc_str w [c]
  have b1 : Below w.heap.size w (w.alloc (.cells #[.string c] 9)) := (Below.refl _ _).alloc (Nat.le_refl _) _
  have h := areD_any (some ⟨w.heap.size, 0, none⟩) 1 [c] _ hb.txt (by simp) (by simp)
  have e1 : wideB [c] = decide (c.size = 32) := by
    unfold wideB
    by_cases h : c.size = 32
    · rw [decide_eq_true h]; simp [h]
    · rw [decide_eq_false h]; simp [h]
  rw [e1] at h
  refine Calls.mono h ?_
  rintro e w' ⟨he, rfl⟩
  exact ⟨he, b1⟩
set_option maxHeartbeats 2000000 in
theorem implFieldRight_any (f : Fld) (w : World) (hT : Tabs w) (h1 : f.n.size ≤ maxLen) (h2 : f.c.size ≤ maxLen) (h3 : f.s.size ≤ maxLen) (h4 : f.v.size ≤ maxLen) : Calls Tryz.prog 144 #[.agg #[.string f.n, .string f.c, .string f.s, .string f.v, .bool f.g]] w fun e w' => e = .returned (.bool (fdB f)) ∧ Below w.heap.size w w' := by
  obtain ⟨n, c, s, v, g⟩ := f
  show Calls Tryz.prog 144 #[.agg #[.string n, .string c, .string s, .string v, .bool g]] w _
  have h1 : n.size ≤ maxLen := h1
  have h2 : c.size ≤ maxLen := h2
  have h3 : s.size ≤ maxLen := h3
  have h4 : v.size ≤ maxLen := h4
  obtain ⟨W1, hW1⟩ : ∃ W1, W1 = w.alloc (.cells #[.string n, .string c, .string s, .string v, .bool g] 76) := ⟨_, rfl⟩
  have HW1 : Hid (W1 = w.alloc (.cells #[.string n, .string c, .string s, .string v, .bool g] 76)) := hW1
  have B1 : Hid (Below w.heap.size w W1) := by rw [hW1]; exact (Below.refl _ _).alloc (Nat.le_refl _) _
  have K1 : Hid (Bxs W1 w.heap.size 76 #[.string n, .string c, .string s, .string v, .bool g]) := by rw [hW1]; exact Bxs.new _ _ _
  have HTb : Hid (Tabs W1) := hT.to B1.out
  have hN := implNameRight_any n W1 h1
  have hA := areOne_any c W1
  have HG : Hid (∀ x, Calls Tryz.prog 150 #[.string n, .string c] x fun e w' => e = .returned (.agg #[.string n, .string c, .string ByteArray.empty, .string ByteArray.empty, .bool true]) ∧ Below x.heap.size x w') := fun x => goneField_any n c x
  have HC : Hid (∀ x, Tabs x → Calls Tryz.prog 151 #[.string n, .string s, .string v] x fun e w' => e = .returned (.agg #[.string n, .string (cmB n s v), .string s, .string v, .bool false]) ∧ Below x.heap.size x w') := fun x hx => presentField_any n s v x hx h1 h3 h4
  have HF : Hid (fdB ⟨n, c, s, v, g⟩ = (nrB n && (decide (c.size = 32) && (if g = true then emB s && emB v else c.toList == (cmB n s v).toList)))) := rfl
  have HX : Hid (∀ x, Below W1.heap.size W1 x → x.cell? ⟨w.heap.size, 0, none⟩ = some (.string n) ∧ x.cell? ⟨w.heap.size, 1, none⟩ = some (.string c) ∧ x.cell? ⟨w.heap.size, 2, none⟩ = some (.string s) ∧ x.cell? ⟨w.heap.size, 3, none⟩ = some (.string v) ∧ x.cell? ⟨w.heap.size, 4, none⟩ = some (.bool g)) := fun x hb => ⟨(K1.out.below hb).cell 0, (K1.out.below hb).cell 1, (K1.out.below hb).cell 2, (K1.out.below hb).cell 3, (K1.out.below hb).cell 4⟩
  obtain ⟨x0, x1, x2, x3, x4⟩ := HX.out W1 (Below.refl _ _)
  have y0 := x0
  rw [hW1] at y0
  unfold maxLen at h1 h2 h3 h4
  clear hW1 hT
  rw [HF.out]
  cases hk : nrB n with
  | false =>
    rw [hk] at hN
    rw [Bool.false_and]
    go_enter Tryz.func144, Tryz.ntmps144
    go_wp2_with fail
    rw [← HW1.out]
    refine hN.mono ?_
    rintro e w1 ⟨rfl, rfl⟩
    go_wp2_with fail
    go_ret
    exact ⟨rfl, B1.out⟩
  | true =>
  rw [hk] at hN
  rw [Bool.true_and]
  generalize decide (c.size = 32) = bc at *
  cases bc with
  | false =>
    rw [Bool.false_and]
    go_enter Tryz.func144, Tryz.ntmps144
    go_wp2_with fail
    rw [← HW1.out]
    refine hN.mono ?_
    rintro e w1 ⟨rfl, rfl⟩
    go_wp2_with fail
    refine hA.mono ?_
    rintro e w2 ⟨rfl, b2⟩
    go_wp2_with fail
    go_ret
    exact ⟨rfl, chainB B1.out b2⟩
  | true =>
  rw [Bool.true_and]
  cases g with
  | true =>
    rw [if_pos rfl]
    have EQ : ∀ w, (binOp .eql 76 (.agg #[.string n, .string c, .string s, .string v, .bool true]) (.agg #[.string n, .string c, .string ByteArray.empty, .string ByteArray.empty, .bool true])).run Tryz.prog w = .ok (.bool (emB s && emB v)) w := fun w => by rw [eql_fld, eqF_gone]
    generalize (emB s && emB v) = R at *
    go_enter Tryz.func144, Tryz.ntmps144
    go_wp2_with fail
    rw [← HW1.out]
    refine hN.mono ?_
    rintro e w1 ⟨rfl, rfl⟩
    go_wp2_with fail
    refine hA.mono ?_
    rintro e w2 ⟨rfl, b2⟩
    clear x0 x1 x2 x3 x4 y0
    obtain ⟨x0, x1, x2, x3, x4⟩ := HX.out w2 b2
    have BR : Hid (Below w1.heap.size w1 w2.drew) := b2.drew
    go_wp2_with fail
    go_region_held3 (fun w' => w'.cell? ⟨w.heap.size, 0, none⟩ = some (.string n) ∧ w'.cell? ⟨w.heap.size, 1, none⟩ = some (.string c) ∧ w'.cell? ⟨w.heap.size, 2, none⟩ = some (.string s) ∧ w'.cell? ⟨w.heap.size, 3, none⟩ = some (.string v) ∧ w'.cell? ⟨w.heap.size, 4, none⟩ = some (.bool true)) ((first | exact HX.out _ BR.out | exact HX.out _ z1)) (first
      | (go_at_call 150; with_reducible refine (HG.out _).mono ?_; rintro e x9 ⟨rfl, z0⟩; have z1 : Below w1.heap.size w1 x9 := chainB BR.out z0))
    all_goals
      go_wp2_with fail
      go_ret
      exact ⟨rfl, chainB B1.out z1⟩
  | false =>
    rw [if_neg (by exact Bool.false_ne_true)]
    obtain ⟨C, hC⟩ : ∃ C, C = cmB n s v := ⟨_, rfl⟩
    rw [← hC] at HC ⊢
    clear hC HF
    have EQ : ∀ w, (binOp .eql 76 (.agg #[.string n, .string c, .string s, .string v, .bool false]) (.agg #[.string n, .string C, .string s, .string v, .bool false])).run Tryz.prog w = .ok (.bool (c.toList == C.toList)) w := fun w => by rw [eql_fld, eqF_there]
    generalize (c.toList == C.toList) = R at *
    go_enter Tryz.func144, Tryz.ntmps144
    go_wp2_with fail
    rw [← HW1.out]
    refine hN.mono ?_
    rintro e w1 ⟨rfl, rfl⟩
    go_wp2_with fail
    refine hA.mono ?_
    rintro e w2 ⟨rfl, b2⟩
    clear x0 x1 x2 x3 x4 y0
    obtain ⟨x0, x1, x2, x3, x4⟩ := HX.out w2 b2
    have BR : Hid (Below w1.heap.size w1 w2.drew) := b2.drew
    go_wp2_with fail
    go_region_held3 (fun w' => w'.cell? ⟨w.heap.size, 0, none⟩ = some (.string n) ∧ w'.cell? ⟨w.heap.size, 1, none⟩ = some (.string c) ∧ w'.cell? ⟨w.heap.size, 2, none⟩ = some (.string s) ∧ w'.cell? ⟨w.heap.size, 3, none⟩ = some (.string v) ∧ w'.cell? ⟨w.heap.size, 4, none⟩ = some (.bool false)) ((first | exact HX.out _ BR.out | exact HX.out _ z1)) (first
      | (go_at_call 151; with_reducible refine (HC.out _ (HTb.out.to BR.out)).mono ?_; rintro e x9 ⟨rfl, z0⟩; have z1 : Below w1.heap.size w1 x9 := chainB BR.out z0))
    all_goals
      go_wp2_with fail
      go_ret
      exact ⟨rfl, chainB B1.out z1⟩
end Go.Proofs.YtnjegmffjelnpaaGreatDoor
/-
  Of two texts: not less is less the other way round, or alike.
-/
namespace Go.Proofs.YtnjegmffjelnpaaGreatDoor
open Go.RowKit
set_option linter.unusedVariables false

theorem bl_not : ∀ (x y : List UInt8), (Op.bytesLess y x || y == x) = !Op.bytesLess x y
  | [], [] => rfl
  | [], b :: y => by simp [Op.bytesLess]
  | a :: x, [] => by simp [Op.bytesLess]
  | a :: x, b :: y => by
    have ih := bl_not x y
    simp only [Op.bytesLess]
    by_cases h1 : a < b
    · have h2 : ¬ b < a := UInt8.lt_asymm h1
      have h3 : ¬ b = a := fun h => by subst h; exact UInt8.lt_irrefl _ h1
      simp [h1, h2, h3]
    · by_cases h2 : b < a
      · have h3 : ¬ a = b := fun h => by subst h; exact UInt8.lt_irrefl _ h2
        simp [h1, h2, h3]
      · have h3 : a = b := UInt8.le_antisymm (UInt8.not_lt.1 h2) (UInt8.not_lt.1 h1)
        subst h3
        simpa [h1] using ih
end Go.Proofs.YtnjegmffjelnpaaGreatDoor
