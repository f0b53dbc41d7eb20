/-
  Parts of one proof, laid as one text: AsD, As2, CodeOf, RngX, Scopes, ReadBits; what each says stands at its head.
-/
import Derived.Test.YtonleickhincgaaGreatDoorRows
import Derived.WalkKit
import Derived.LaidEql
import Derived.Stop.Asserts
import Derived.RowKitTokens
import Derived.Handy
import Derived.Test.YtonleickhincgaaGreatDoorBytesDigMath
import Derived.RangeFuncNested
import Derived.RangeFuncBound
import Derived.RangeFuncCalls
import Derived.RangeFuncLeaves
import Derived.OrdersIn
import Derived.OrdersHeld
import Derived.Deep.RegionHeld
import Derived.ScopeJumps
import Derived.WalkMore
import Derived.Test.YtonleickhincgaaGreatDoorImplVerInc2SignRSignWFldRiseScanMath
/-
  errors.As at the target *wrongBytes, by its contracts: a nil error: false, nothing turns; an error that is a wrongBytes: true, and the target holds it; nothing else that was there turns. After the guide's worked example of errors.As.
  Conditions: the variable errors.errorType holds the handle of the type error; the target's cell is there and may be written.
-/
namespace Go.Proofs.YtonleickhincgaaGreatDoor
open Go.RowKit Go.Extern.Stop Go.Stop Go.Extern

theorem as_nil (t : Value) (w : World) :
    Calls Tryz.prog 224 #[.nilIface, t] w fun e w' => e = .returned (.bool false) ∧ w' = w := by
  go_enter Tryz.func224, Tryz.ntmps224
  go_wp2
  go_ret
  exact ⟨rfl, rfl⟩

theorem valueOfP (t : Addr) (w : World) : (ReflectliteValue.unpack (.iface 261 (.pointer (some t)))).run Tryz.prog w
    = .ok (.agg #[.pointer (some ⟨3, 261, none⟩), .pointer (some ⟨w.heap.size, 0, none⟩), .int .u64 150]) (w.alloc (.cells #[.pointer (some t)] 261)) := by kernel_rfl
theorem typeP (a : Addr) (w : World) : (ReflectliteValue.methodAny (ReflectliteValue.valueError "reflectlite.Value.Type" 0) (fun t _ _ _ => ReflectliteType.toType t) #[.agg #[.pointer (some ⟨3, 261, none⟩), .pointer (some a), .int .u64 150]]).run Tryz.prog w
    = .ok (.iface 282 (.agg #[.pointer (some ⟨3, 261, none⟩)])) w := by kernel_rfl
theorem kindP (w : World) : ((ReflectliteType.abiMethod fun t => (fun a : Nat => Value.int IntKind.u8 (a : Int)) <$> Rtype.kind t) #[.pointer (some ⟨3, 261, none⟩)]).run Tryz.prog w = .ok (.int .u8 22) w := by kernel_rfl
theorem kindE (w : World) : ((ReflectliteType.abiMethod fun t => (fun a : Nat => Value.int IntKind.u8 (a : Int)) <$> Rtype.kind t) #[.pointer (some ⟨3, 194, none⟩)]).run Tryz.prog w = .ok (.int .u8 25) w := by kernel_rfl
theorem partsP (a : Addr) (w : World) : (ReflectliteValue.parts (.agg #[.pointer (some ⟨3, 261, none⟩), .pointer (some a), .int .u64 150])).run Tryz.prog w = .ok (some (261, a, 150)) w := by kernel_rfl
theorem isNilP (a p : Addr) (W : World) (ha : W.cell? a = some (.pointer (some p))) :
    (ReflectliteValue.method (ReflectliteValue.valueError "reflectlite.Value.IsNil" 0) ReflectliteValue.isNil #[.agg #[.pointer (some ⟨3, 261, none⟩), .pointer (some a), .int .u64 150]]).run Tryz.prog W = .ok (.bool false) W := by
  show (Sem.run Tryz.prog (ReflectliteValue.parts (.agg #[.pointer (some ⟨3, 261, none⟩), .pointer (some a), .int .u64 150]) >>= _) W) = _
  simp only [Sem.run_bind, partsP, Result.andThen]
  simp [ReflectliteValue.isNil, loadVar, isAgg, underlying, Tryz.underlying261, ha, Result.andThen]
theorem elemTP (w : World) : (ReflectliteType.method ReflectliteType.elem #[.agg #[.pointer (some ⟨3, 261, none⟩)]]).run Tryz.prog w = .ok (.iface 282 (.agg #[.pointer (some ⟨3, 194, none⟩)])) w := by kernel_rfl
theorem implementsE (w : World) : (ReflectliteType.relation "Implements" ReflectliteType.implements_ #[.agg #[.pointer (some ⟨3, 194, none⟩)], .iface 282 (.agg #[.pointer (some ⟨3, 74, none⟩)])]).run Tryz.prog w = .ok (.bool true) w := by kernel_rfl
theorem typeOfE (v : Value) (w : World) : (ReflectliteType.typeOf #[.iface 194 v]).run Tryz.prog w = .ok (.iface 282 (.agg #[.pointer (some ⟨3, 194, none⟩)])) w := by kernel_rfl
theorem assignableE (w : World) : (ReflectliteType.relation "AssignableTo" ReflectliteType.assignableTo #[.agg #[.pointer (some ⟨3, 194, none⟩)], .iface 282 (.agg #[.pointer (some ⟨3, 194, none⟩)])]).run Tryz.prog w = .ok (.bool true) w := by kernel_rfl
theorem valueOfE (c : Int) (w : World) : (ReflectliteValue.unpack (.iface 194 (.agg #[.int .i64 c]))).run Tryz.prog w
    = .ok (.agg #[.pointer (some ⟨3, 194, none⟩), .pointer (some ⟨w.heap.size, 0, none⟩), .int .u64 153]) (w.alloc (.cells #[.int .i64 c] 194)) := by kernel_rfl
theorem elemOfP (w : World) : (Rtype.elem? 261).run Tryz.prog w = .ok (some 194) w := by kernel_rfl
theorem mkE (p : Addr) (w : World) : (ReflectliteValue.mk 194 p ReflectliteValue.flagAddr).run Tryz.prog w = .ok (.agg #[.pointer (some ⟨3, 194, none⟩), .pointer (some p), .int .u64 409]) w := by kernel_rfl
theorem elemVP (a p : Addr) (W : World) (ha : W.cell? a = some (.pointer (some p))) :
    (ReflectliteValue.method (ReflectliteValue.valueError "reflectlite.Value.Elem" 0) ReflectliteValue.elem #[.agg #[.pointer (some ⟨3, 261, none⟩), .pointer (some a), .int .u64 150]]).run Tryz.prog W
      = .ok (.agg #[.pointer (some ⟨3, 194, none⟩), .pointer (some p), .int .u64 409]) W := by
  show (Sem.run Tryz.prog (ReflectliteValue.parts (.agg #[.pointer (some ⟨3, 261, none⟩), .pointer (some a), .int .u64 150]) >>= _) W) = _
  simp only [Sem.run_bind, partsP, Result.andThen]
  simp [ReflectliteValue.elem, loadVar, isAgg, underlying, Tryz.underlying261, ha, Result.andThen, elemOfP, mkE]

theorem partsEa (a : Addr) (w : World) : (ReflectliteValue.parts (.agg #[.pointer (some ⟨3, 194, none⟩), .pointer (some a), .int .u64 409])).run Tryz.prog w = .ok (some (194, a, 409)) w := by kernel_rfl
theorem partsE (a : Addr) (w : World) : (ReflectliteValue.parts (.agg #[.pointer (some ⟨3, 194, none⟩), .pointer (some a), .int .u64 153])).run Tryz.prog w = .ok (some (194, a, 153)) w := by kernel_rfl
theorem directE (w : World) : (Rtype.directlyAssignable 194 194).run Tryz.prog w = .ok true w := by kernel_rfl
theorem sizeE (w : World) : (sizeOf 194).run Tryz.prog w = .ok 1 w := by kernel_rfl
theorem isAggE (w : World) : (isAgg 194).run Tryz.prog w = .ok true w := by kernel_rfl
theorem setE (b1 b2 : Nat) (c : Int) (old : Value) (W : World) (hb : W.cell? ⟨b2, 0, none⟩ = some (.int .i64 c)) (ht : W.cell? ⟨b1, 0, none⟩ = some old) (hf : W.frozen? ⟨b1, 0, none⟩ = false) :
    (ReflectliteValue.set #[.agg #[.pointer (some ⟨3, 194, none⟩), .pointer (some ⟨b1, 0, none⟩), .int .u64 409], .agg #[.pointer (some ⟨3, 194, none⟩), .pointer (some ⟨b2, 0, none⟩), .int .u64 153]]).run Tryz.prog W
      = .ok (.tuple #[]) (W.setCell ⟨b1, 0, none⟩ (.int .i64 c)) := by
  show (Sem.run Tryz.prog (ReflectliteValue.parts (.agg #[.pointer (some ⟨3, 194, none⟩), .pointer (some ⟨b1, 0, none⟩), .int .u64 409]) >>= fun x => ReflectliteValue.parts (.agg #[.pointer (some ⟨3, 194, none⟩), .pointer (some ⟨b2, 0, none⟩), .int .u64 153]) >>= _) W) = _
  simp only [Sem.run_bind, partsEa, partsE, Result.andThen]
  simp [ReflectliteValue.flagAddr, loadVar, Result.andThen, directE, storeVar, Value.cells, storeCells, Addr.add]
  have hl : (loadCells ⟨b2, 0, none⟩ 1).run Tryz.prog W = .ok #[.int .i64 c] W := by
    have := run_loadCells (P := Tryz.prog) W ⟨b2, 0, none⟩ 1 (fun _ => .int .i64 c) (fun j hj => by
      obtain rfl : j = 0 := by omega
      simpa [Addr.add] using hb)
    simpa using this
  rw [hl]
  simp [storeCells, Addr.add]
  rw [run_store Tryz.prog W ⟨b1, 0, none⟩ _ _ (by rfl)]
  simp [ht, hf]
end Go.Proofs.YtonleickhincgaaGreatDoor
/-
  errors.As at the target *wrongBytes, and what codeOf answers. After the guide's worked example of errors.As.
  Conditions: the variable errors.errorType holds the handle of the type error; the target's cell is there and may be written.
-/
namespace Go.Proofs.YtonleickhincgaaGreatDoor
open Go.RowKit Go.Extern.Stop Go.Stop Go.Extern

def etv : Value := .iface 282 (.agg #[.pointer (some ⟨3, 74, none⟩)])

set_option maxHeartbeats 4000000 in
theorem as_hit (c : Int) (tb : Nat) (old : Value) (w : World) (hg : w.cell? ⟨2, 0, none⟩ = some (.iface 282 (.agg #[.pointer (some ⟨3, 74, none⟩)]))) (ht0 : w.cell? ⟨tb, 0, none⟩ = some old) (hf0 : w.frozen? ⟨tb, 0, none⟩ = false) :
    Calls Tryz.prog 224 #[.iface 194 (.agg #[.int .i64 c]), .iface 261 (.pointer (some ⟨tb, 0, none⟩))] w fun ev w' => ev = .returned (.bool true) ∧ w' = ((((w.alloc (.cells #[.pointer (some ⟨tb, 0, none⟩)] 261)).alloc (.cells #[.pointer (some ⟨3, 261, none⟩), .pointer (some ⟨w.heap.size, 0, none⟩), .int .u64 150] 269)).alloc (.cells #[.pointer (some ⟨3, 261, none⟩), .pointer (some ⟨w.heap.size, 0, none⟩), .int .u64 150] 269)).alloc (.cells #[.int .i64 c] 194)).setCell ⟨tb, 0, none⟩ (.int .i64 c) := by
  have h6 := @run_callFunc_extern Tryz.prog 230 _ (fun args => ReflectliteValue.unpack (args.getD 0 (.tuple #[]))) Tryz.func230 (by kernel_rfl) (by kernel_rfl) (by kernel_rfl) (by kernel_rfl)
  have h7 := @run_callFunc_extern Tryz.prog 231 _ (ReflectliteValue.methodAny (ReflectliteValue.valueError "reflectlite.Value.Type" 0) (fun t _ _ _ => ReflectliteType.toType t)) Tryz.func231 (by kernel_rfl) (by kernel_rfl) (by kernel_rfl) (by kernel_rfl)
  have h8 := @run_callFunc_extern Tryz.prog 232 _ (ReflectliteValue.method (ReflectliteValue.valueError "reflectlite.Value.IsNil" 0) ReflectliteValue.isNil) Tryz.func232 (by kernel_rfl) (by kernel_rfl) (by kernel_rfl) (by kernel_rfl)
  have h27 := @run_callFunc_extern Tryz.prog 270 _ (ReflectliteType.abiMethod fun t => do pure (.int .u8 (← Rtype.kind t))) Tryz.func270 (by kernel_rfl) (by kernel_rfl) (by kernel_rfl) (by kernel_rfl)
  have h37 := @run_callFunc_extern Tryz.prog 280 _ (ReflectliteType.method ReflectliteType.elem) Tryz.func280 (by kernel_rfl) (by kernel_rfl) (by kernel_rfl) (by kernel_rfl)
  have h38 := @run_callFunc_extern Tryz.prog 281 _ (ReflectliteType.relation "Implements" ReflectliteType.implements_) Tryz.func281 (by kernel_rfl) (by kernel_rfl) (by kernel_rfl) (by kernel_rfl)
  have h10 := @run_callFunc_extern Tryz.prog 238 _ ReflectliteType.typeOf Tryz.func238 (by kernel_rfl) (by kernel_rfl) (by kernel_rfl) (by kernel_rfl)
  have h35 := @run_callFunc_extern Tryz.prog 278 _ (ReflectliteType.relation "AssignableTo" ReflectliteType.assignableTo) Tryz.func278 (by kernel_rfl) (by kernel_rfl) (by kernel_rfl) (by kernel_rfl)
  have h11 := @run_callFunc_extern Tryz.prog 239 _ (ReflectliteValue.method (ReflectliteValue.valueError "reflectlite.Value.Elem" 0) ReflectliteValue.elem) Tryz.func239 (by kernel_rfl) (by kernel_rfl) (by kernel_rfl) (by kernel_rfl)
  have h12 := @run_callFunc_extern Tryz.prog 240 _ ReflectliteValue.set Tryz.func240 (by kernel_rfl) (by kernel_rfl) (by kernel_rfl) (by kernel_rfl)
  have tO := typeOfE
  have aE := assignableE
  have vE := valueOfE
  have f6 := valueOfP
  have f7 := typeP
  have kP := kindP
  have kE := kindE
  have eP := elemTP
  have iE := implementsE
  have n8 := isNilP ⟨w.heap.size, 0, none⟩ ⟨tb, 0, none⟩ ((w.alloc (.cells #[.pointer (some ⟨tb, 0, none⟩)] 261)).alloc (.cells #[.pointer (some ⟨3, 261, none⟩), .pointer (some ⟨w.heap.size, 0, none⟩), .int .u64 150] 269)) (by simp)
  have hlt : 2 < w.heap.size := World.block_lt_of_cell? w _ hg
  have hg2 : ((w.alloc (.cells #[.pointer (some ⟨tb, 0, none⟩)] 261)).alloc (.cells #[.pointer (some ⟨3, 261, none⟩), .pointer (some ⟨w.heap.size, 0, none⟩), .int .u64 150] 269)).cell? ⟨2, 0, none⟩ = some (.iface 282 (.agg #[.pointer (some ⟨3, 74, none⟩)])) := by
    rw [World.cell?_alloc_lt _ _ ⟨2, 0, none⟩ (by simp <;> omega), World.cell?_alloc_lt _ _ ⟨2, 0, none⟩ hlt]; exact hg
  have htl : tb < w.heap.size := by
    rcases Nat.lt_or_ge tb w.heap.size with h | h
    · exact h
    · simp [World.cell?, Array.getElem?_eq_none h] at ht0
  have el := elemVP ⟨w.heap.size, 0, none⟩ ⟨tb, 0, none⟩ (((w.alloc (.cells #[.pointer (some ⟨tb, 0, none⟩)] 261)).alloc (.cells #[.pointer (some ⟨3, 261, none⟩), .pointer (some ⟨w.heap.size, 0, none⟩), .int .u64 150] 269)).alloc (.cells #[.pointer (some ⟨3, 261, none⟩), .pointer (some ⟨w.heap.size, 0, none⟩), .int .u64 150] 269)) (by rw [World.cell?_alloc_lt _ _ ⟨w.heap.size, 0, none⟩ (by simp; omega)]; simp)
  have st := setE tb (w.heap.size + 1 + 1 + 1) c old ((((w.alloc (.cells #[.pointer (some ⟨tb, 0, none⟩)] 261)).alloc (.cells #[.pointer (some ⟨3, 261, none⟩), .pointer (some ⟨w.heap.size, 0, none⟩), .int .u64 150] 269)).alloc (.cells #[.pointer (some ⟨3, 261, none⟩), .pointer (some ⟨w.heap.size, 0, none⟩), .int .u64 150] 269)).alloc (.cells #[.int .i64 c] 194))
    (by rw [World.cell?_alloc_at _ _ _ _ (by simp)]; rfl)
    (by rw [World.cell?_alloc_lt _ _ ⟨tb, 0, none⟩ (by simp; omega), World.cell?_alloc_lt _ _ ⟨tb, 0, none⟩ (by simp; omega), World.cell?_alloc_lt _ _ ⟨tb, 0, none⟩ (by simp; omega), World.cell?_alloc_lt _ _ ⟨tb, 0, none⟩ htl]; exact ht0)
    (by rw [World.frozen?_alloc_old _ _ ⟨tb, 0, none⟩ (by simp; omega), World.frozen?_alloc_old _ _ ⟨tb, 0, none⟩ (by simp; omega), World.frozen?_alloc_old _ _ ⟨tb, 0, none⟩ (by simp; omega), World.frozen?_alloc_old _ _ ⟨tb, 0, none⟩ (Nat.ne_of_lt htl)]; exact hf0)
  go_enter Tryz.func224, Tryz.ntmps224
  go_wp2
  refine wp_loop_rounds 1 ?_
  rw [rounds_succ]
  go_wp2
  go_ret
  exact ⟨rfl, rfl⟩
end Go.Proofs.YtonleickhincgaaGreatDoor
/-
  What codeOf answers: 0 of a nil error, the code of a wrongBytes. Nothing that was there turns.
  Conditions: the variable errors.errorType holds the handle of the type error.
-/
namespace Go.Proofs.YtonleickhincgaaGreatDoor
open Go.RowKit Go.Extern.Stop Go.Stop Go.Extern

/-- The variable errors.errorType as the program's text lays it. -/
def Laid (w : World) : Prop := w.cell? ⟨2, 0, none⟩ = some (.iface 282 (.agg #[.pointer (some ⟨3, 74, none⟩)]))
theorem Laid.pos {w : World} (h : Laid w) : 2 < w.heap.size := World.block_lt_of_cell? w _ h
theorem Laid.below {w w' : World} (h : Laid w) (hb : Below w.heap.size w w') : Laid w' := by
  unfold Laid; rw [hb.cell (p := ⟨2, 0, none⟩) h.pos]; exact h

def errV (c : Int) : Value := .iface 194 (.agg #[.int .i64 c])

set_option maxHeartbeats 1000000 in
theorem codeOf_nil (w : World) :
    Calls Tryz.prog 218 #[.nilIface] w fun e w' => e = .returned (.int .i64 0) ∧ Below w.heap.size w w' := by
  go_enter Tryz.func218, Tryz.ntmps218
  go_wp2_with (go_at_call 224; refine (as_nil _ _).mono ?_; rintro e w' ⟨rfl, hw⟩; subst hw)
  go_ret
  exact ⟨rfl, (Below.refl _ _).alloc (Nat.le_refl _) _⟩

set_option maxHeartbeats 1000000 in
theorem codeOf_hit (c : Int) (w : World) (hg : Laid w) :
    Calls Tryz.prog 218 #[.iface 194 (.agg #[.int .i64 c])] w fun e w' => e = .returned (.int .i64 c) ∧ Below w.heap.size w w' := by
  have hlt := hg.pos
  have hgA : (w.alloc (.cells #[.int .i64 0] 194)).cell? ⟨2, 0, none⟩ = some (.iface 282 (.agg #[.pointer (some ⟨3, 74, none⟩)])) := by
    rw [World.cell?_alloc_lt _ _ ⟨2, 0, none⟩ hlt]; exact hg
  have htA : (w.alloc (.cells #[.int .i64 0] 194)).cell? ⟨w.heap.size, 0, none⟩ = some (.int .i64 0) := by simp
  have hfA : (w.alloc (.cells #[.int .i64 0] 194)).frozen? ⟨w.heap.size, 0, none⟩ = false := by simp
  have HA : Hid (Laid w) := hg
  clear hg
  go_enter Tryz.func218, Tryz.ntmps218
  go_wp2_with (go_at_call 224; refine (as_hit _ _ (.int .i64 0) _ hgA htA hfA).mono ?_; rintro e w' ⟨rfl, hw⟩; subst hw)
  go_ret
  exact ⟨rfl, by go_grown⟩
end Go.Proofs.YtonleickhincgaaGreatDoor
/-
  A range over a function whose rounds come in a known order: the contract of such an iterator (only the next one that is due must be borne by the body), and the law for the statement.
-/
namespace Go.Proofs.YtonleickhincgaaGreatDoor
open Go.RowKit
set_option linter.unusedVariables false
variable {F : Fence} {n : Nat} {P : Program}

/-- The iterator's contract: 'Nx pre x': x is what comes when pre has come. -/
def SeqX {α : Type} (F : Fence) (n : Nat) (P : Program) (g : Nat) (lb : Array Value) (encs : α → Array Value) (Kp : World → World → Prop) (Nx : List α → α → Prop) (S Sp : List α → Prop) (w : World) : Prop :=
  ∀ (l : Nat) (J Jx : List α → World → Prop) (W : World), Below w.heap.size w W → AbidesFrom W.heap.size J → AbidesFrom W.heap.size Jx →
    (∀ pre x W1, Nx pre x → J pre W1 → YieldAt F (n - 1) P l (encs x) W1 fun e W' =>
      (e = .returned (.bool true) ∧ J (pre ++ [x]) W' ∧ Kp W1 W') ∨ (e = .returned (.bool false) ∧ Jx (pre ++ [x]) W')) →
    J [] W →
    CallsIn F n P g (#[.func (.yield l) #[] #[]] ++ lb) W fun e W' => (∃ v, e = .returned v) ∧ ((∃ xs, S xs ∧ J xs W') ∨ (∃ pre, Sp pre ∧ Jx pre W'))

/-- What holds beside the caller's own word while the loop goes on: its record, and the block of its deferred calls. -/
def Held2 (k : Nat) (r : Loop) (W : World) : Prop := W.heap[k + 1]? = some (.loop r) ∧ W.heap[k]? = some (.deferred (some []))
theorem Held2.grown {k : Nat} {r : Loop} {A B : World} {row : Option Nat} (h : Held2 k r A) (hg : A.grownBy B row) (hr : ∀ j, row = some j → ∃ o : Obj, A.heap[j]? = some o ∧ o.isWalk = true) : Held2 k r B :=
  ⟨(grownBy_keeps hg hr h.1 rfl).trans h.1, (grownBy_keeps hg hr h.2 rfl).trans h.2⟩
theorem Held2.put {k : Nat} {r : Loop} {W : World} (h : Held2 k r W) (r' : Loop) : Held2 k r' (W.putObj (k + 1) (.loop r')) :=
  ⟨World.putObj_heap_same (Array.getElem?_eq_some_iff.1 h.1).1, (World.putObj_heap_other (by omega)).trans h.2⟩
theorem Held2.kept {k : Nat} {r : Loop} {A B : World} (h : Held2 k r A) (hk : KeepsFrom k A B) : Held2 k r B :=
  ⟨hk.same _ _ (by omega) h.1 rfl, hk.same _ _ (Nat.le_refl _) h.2 rfl⟩

/-- The loop's record, which lies at or beyond k, was turned, and nothing else. -/
def Turned (k l : Nat) (W B : World) : Prop := k ≤ l ∧ ∃ r r' : Loop, W.heap[l]? = some (.loop r) ∧ B = W.putObj l (.loop r')
theorem Turned.cells {k l : Nat} {W B : World} (h : Turned k l W B) {g : Nat} {cs : Array Value} {T : TypeId} {m : Nat × Nat} (hg : W.heap[g]? = some (.cells cs T m)) : B.heap[g]? = some (.cells cs T m) := by
  obtain ⟨-, r, r', h1, rfl⟩ := h
  rw [World.putObj_heap_other (fun e => by subst e; rw [h1] at hg; cases hg)]
  exact hg
theorem Turned.below {k l n₀ : Nat} {W B : World} (h : Turned k l W B) (hn : n₀ ≤ k) : Below n₀ W B := by
  obtain ⟨h0, r, r', h1, rfl⟩ := h
  refine ⟨rfl, rfl, rfl, by simp, fun g hg => World.putObj_heap_other (by omega)⟩
theorem rangeX {α : Type} {g : Operand} {ps : Array Tmp} {assign body : Code} {Q : Exit → Act → World → Prop} {a : Act} {w : World}
    (hro : F.round = none) (h1 : 1 ≤ n) {gf : Nat} {lb : Array Value} (hg : a.eval g = .func (.func gf) #[] lb) (hFg : F.fn gf) (eg : ∀ args w, (callFunc gf args).run P w = .ok (.enter gf args) w)
    {encs : α → Array Value} {Kp : World → World → Prop} {Nx : List α → α → Prop} {S Sp : List α → Prop} {w0 : World} (hseq : SeqX F (n - 1) P gf lb encs Kp Nx S Sp w0)
    (hKt : ∀ {A B C : World}, Kp A B → Kp B C → Kp A C) (hKb : ∀ (W : World) (l : Nat) (o o' : Obj), w.heap.size ≤ l → W.heap[l]? = some o → o.isCells = false → o.isWalk = false → Kp W (W.putObj l o')) (hb0 : Below w0.heap.size w0 w) (hps : ∀ x, (encs x).size = ps.size)
    (I : List α → World → Prop) (Ix : Code → List α → World → Prop) (hI : OwnFrom w.heap.size I) (hIx : ∀ c, OwnFrom w.heap.size (Ix c)) (h0 : I [] w)
    (hround : ∀ (l : Nat) (pre : List α) (x : α) (W : World), Nx pre x → I pre W → w.heap.size ≤ l →
      assign.wpIn (F.inRound l) (n - 1 - 1) P (Exit.then (fun a₁ W₁ => KeepsFrom w.heap.size W W₁ ∧ Kp W W₁ ∧ ∀ B, Turned w.heap.size l W₁ B → body.wpIn (F.inRound l) (n - 1 - 1) P (ownPostG w.heap.size Kp I Ix (pre ++ [x]) B) a₁ B) (fun _ _ _ => False))
        { tmps := (ps.zip (encs x)).foldl (fun t (p, v) => t.setIfInBounds p v) a.tmps, defers := [] } W)
    (hdone : ∀ (D : Nat) (xs : List α) (W : World), w.heap.size ≤ D → S xs → I xs W → W.heap[D]? = some (.deferred (some [])) → Q .normal { a with defers := { target := .collected D, args := #[] } :: a.defers } W)
    (hstop : ∀ (D : Nat) (c : Code) (pre : List α) (W : World), w.heap.size ≤ D → Sp pre → Ix c pre W → W.heap[D]? = some (.deferred (some [])) → c.wpIn F n P Q { a with defers := { target := .collected D, args := #[] } :: a.defers } W) :
    (Code.rangeFunc g ps assign body).wpIn F n P Q a w := by
  refine wpIn_rangeFunc fun fn hfn => ?_
  rw [hro]
  let R (st : LoopState) (pe : Option Code) : Loop := { state := st, pending := pe, fn := fn, tmps := a.tmps, params := ps, assign := assign, body := body, defers := w.heap.size }
  obtain ⟨W1, hW1⟩ : ∃ W1, W1 = (w.alloc (.deferred (some []))).alloc (.loop (R .ready none)) := ⟨_, rfl⟩
  have hz : W1.heap.size = w.heap.size + 2 := by rw [hW1]; simp
  have hH1 : Held2 w.heap.size (R .ready none) W1 := by
    rw [hW1]
    refine ⟨?_, (Below.heap_alloc _ _ _ (by simp)).trans (World.alloc_heap_new w _)⟩
    have := World.alloc_heap_new (w.alloc (.deferred (some []))) (.loop (R .ready none))
    rwa [World.size_alloc] at this
  have hI1 : I [] W1 := by rw [hW1]; exact hI.alloc _ (hI.alloc _ h0)
  have hb1 : Below w0.heap.size w0 W1 := by
    rw [hW1]; exact hb0.trans ((((Below.refl _ w).alloc (Nat.le_refl _) _).alloc (by simp) _).mono hb0.size)
  refine ⟨w.heap.size + 1, [{ target := .collected w.heap.size, args := #[] }], W1, { target := .fn (.func gf) lb, args := #[.func (.yield (w.heap.size + 1)) #[] #[]] }, W1, gf, #[.func (.yield (w.heap.size + 1)) #[] #[]] ++ lb, W1, ?_, ?_, ?_, ?_, fun _ => h1, ?_⟩
  · rw [hW1]; exact run_enterLoop_outer _ _ _ _ _
  · simp only [resolve, hg]; simp [go_sem]
  · intro f' hf'; simp [Target.leads] at hf'; subst hf'; exact hFg
  · simp [invoke, go_sem, eg]
  have up : ∀ {A : World} {row : Option Nat}, (∀ r, row = some r → W1.heap.size ≤ r ∧ ∃ o : Obj, A.heap[r]? = some o ∧ o.isWalk = true) → ∀ r, row = some r → w.heap.size ≤ r ∧ ∃ o : Obj, A.heap[r]? = some o ∧ o.isCells = false := fun hr r e => by
    obtain ⟨q, o, ho, hw⟩ := hr r e
    exact ⟨by omega, o, ho, Obj.not_cells_of_walk hw⟩
  refine (hseq (w.heap.size + 1) (fun pre W => I pre W ∧ Held2 w.heap.size (R .ready none) W) (fun pre W => ∃ c, Ix c pre W ∧ Held2 w.heap.size (R .done (some c)) W) W1 hb1 (fun s A B row hs hgr hr => ⟨hI s A B row hs.1 hgr (up hr), hs.2.grown hgr (fun r e => (hr r e).2)⟩) (fun s A B row hs hgr hr => ?_) ?_ ⟨hI1, hH1⟩).mono ?_
  · obtain ⟨c, hc, hh⟩ := hs
    exact ⟨c, hIx c s A B row hc hgr (up hr), hh.grown hgr (fun r e => (hr r e).2)⟩
  · rintro pre x W hN ⟨hi, hh⟩
    have hy := run_yield (P := P) (args := encs x) hh.1 (hps x)
    refine ⟨fn, _, assign, body, hy, roundIn_of_wpIn hfn (wpIn_mono (hround _ pre x W hN hi (by omega)) ?_)⟩
    intro e a1 Wx hp
    cases e with
    | normal =>
      obtain ⟨hkx, hpx, hp⟩ := hp
      have hhx := hh.kept hkx
      have hl2 : Held2 w.heap.size (R .busy none) (Wx.putObj (w.heap.size + 1) (.loop (R .busy none))) := hhx.put _
      have hk2 : Kp W (Wx.putObj (w.heap.size + 1) (.loop (R .busy none))) := hKt hpx (hKb _ _ _ _ (by omega) hhx.1 rfl rfl)
      refine ⟨_, run_beginRound hhx.1 rfl, wpIn_mono (hp _ ⟨by omega, _, _, hhx.1, rfl⟩) ?_⟩
      have fin : ∀ (jump : Option Code) (W3 : World), KeepsFrom w.heap.size (Wx.putObj (w.heap.size + 1) (.loop (R .busy none))) W3 →
          (Instr.endRound (w.heap.size + 1) jump).run P W3 = .ok (.bool jump.isNone) (W3.putObj (w.heap.size + 1) (.loop (R (if jump.isNone then .ready else .done) jump))) ∧ Held2 w.heap.size (R .busy none) W3 := fun jump W3 hk3 => by
        have hl3 := hl2.kept hk3
        exact ⟨run_endRound (P := P) jump hl3.1, hl3⟩
      rintro e a3 W3 hp
      have leave : ∀ c : Code, KeepsFrom w.heap.size (Wx.putObj (w.heap.size + 1) (.loop (R .busy none))) W3 → Ix c (pre ++ [x]) W3 → ∃ v w', (Instr.endRound (w.heap.size + 1) (some c)).run P W3 = .ok v w' ∧ (((Ending.returned v = .returned (.bool true)) ∧ (I (pre ++ [x]) w' ∧ Held2 w.heap.size (R .ready none) w') ∧ Kp W w') ∨ (Ending.returned v = .returned (.bool false) ∧ ∃ c, Ix c (pre ++ [x]) w' ∧ Held2 w.heap.size (R .done (some c)) w')) := fun c hk3 hi3 => by
        obtain ⟨hr, hl3⟩ := fin (some c) W3 hk3
        exact ⟨_, _, hr, .inr ⟨rfl, c, (hIx _).putObj _ hi3 (by omega) hl3.1 rfl, hl3.put _⟩⟩
      cases e with
      | normal =>
        obtain ⟨hk3, hkp3, hi3⟩ := hp
        obtain ⟨hr, hl3⟩ := fin none W3 hk3
        exact ⟨_, _, hr, .inl ⟨rfl, ⟨hI.putObj _ hi3 (by omega) hl3.1 rfl, hl3.put _⟩, hKt (hKt hk2 hkp3) (hKb _ _ _ _ (by omega) hl3.1 rfl rfl)⟩⟩
      | ret => exact leave .ret hp.1 hp.2
      | exit id => exact leave (.exit id) hp.1 hp.2
      | goto t => exact leave (.goto t) hp.1 hp.2
      | panic ch => exact hp.elim
      | outgrown => exact hp.elim
    | ret => exact hp.elim
    | exit id => exact hp.elim
    | goto t => exact hp.elim
    | panic ch => exact hp.elim
    | outgrown => exact hp.elim
  · rintro e W2 ⟨⟨v, rfl⟩, (⟨xs, hS, hi, hh⟩ | ⟨pre, hSp, c, hi, hh⟩)⟩
    · exact ⟨none, _, run_endLoop (P := P) hh.1 (by simp [R]), hdone _ xs _ (Nat.le_refl _) hS (hI.putObj _ hi (by omega) hh.1 rfl) ((World.putObj_heap_other (by omega)).trans hh.2)⟩
    · exact ⟨some c, _, run_endLoop (P := P) hh.1 (by simp [R]), hstop _ c pre _ (Nat.le_refl _) hSp ((hIx c).putObj _ hi (by omega) hh.1 rfl) ((World.putObj_heap_other (by omega)).trans hh.2)⟩

/-! ### A region that draws its order, within a round: the plain walk serves, where no operation defers -/
def noDefer (ops : Array Oper) : Bool := ops.toList.all fun o => match o.op with | .defer _ => false | _ => true
theorem noDefer_spec {ops : Array Oper} (h : noDefer ops = true) {i : Nat} {o : Oper} (ho : ops[i]? = some o) : ∀ c, o.op ≠ .defer c := by
  intro c e
  unfold noDefer at h
  rw [List.all_eq_true] at h
  have := h o (by rw [Array.mem_toList_iff]; exact Array.mem_of_getElem? ho)
  rw [e] at this
  cases this
theorem rows_round {l m : Nat} {row : String} {args : Array Value} {w : World} {R : Value → World → Prop} (h : Rows P row args w R) : RowsIn (Fence.wide.inRound l) m P row args w R := fun c cs _ => by
  obtain ⟨v, w', r, s⟩ := h c cs
  exact ⟨v, w', r, stepsIn_wide.2 s⟩
theorem op_round {ops : Array Oper} {Q : Exit → Act → World → Prop} {l m i : Nat} {K : Act → World → Prop} {a : Act} {w : World} (hd : noDefer ops = true) (hL : ¬ LetsOut Q) (h : wpOp P ops Q i K a w) : wpOpIn (Fence.wide.inRound l) m P ops Q i K a w := by
  unfold wpOp at h
  unfold wpOpIn
  cases ho : ops[i]? with
  | none => rw [ho] at h; exact h
  | some o =>
    rw [ho] at h
    simp only at h ⊢
    split
    · rename_i hw
      rw [if_pos hw] at h
      rcases h with h | h
      · unfold Oper.wpIn
        refine ⟨fun f _ => trivial, ?_⟩
        rw [Oper.semAt_eq _ _ _ (noDefer_spec hd ho)]
        unfold Oper.wp at h
        generalize (execOp a.eval o).run P w = r at *
        cases r with
        | ok x w' =>
          cases x <;> simp only [Oper.upon, Oper.uponIn] at h ⊢
          case value v => exact h
          case skip => exact h
          case defer d => exact h
          case enter f args =>
            refine ⟨fun e => (by cases e), CallsIn.inRound l (callsIn_wide.2 ?_)⟩
            refine h.mono ?_
            intro e w'' he
            cases e <;> exact he
          case row row args => exact ⟨fun e => (by cases e), rows_round h⟩
        | halt x w' => cases x <;> simp only [Oper.upon, Oper.uponIn] at h ⊢ <;> exact h
      · exact absurd h.2 hL
    · rename_i hw
      rw [if_neg hw] at h
      exact ⟨fun f _ => trivial, h⟩
theorem any_round {md : Region.Mode} {ops : Array Oper} {Q : Exit → Act → World → Prop} {l m : Nat} (hd : noDefer ops = true) (hL : ¬ LetsOut Q) : ∀ (fuel : Nat) (listed : Array Bool) (a : Act) (w : World), wpAny P md ops Q fuel listed a w → wpAnyIn (Fence.wide.inRound l) m P md ops Q fuel listed a w
  | 0, _, _, _, h => h
  | fuel + 1, listed, a, w, h => ⟨h.1, fun i hi => wpOpIn_mono (fun a' w' => any_round hd hL fuel _ a' w') (op_round hd hL (h.2 i hi))⟩
theorem region_round {ops : Array Oper} {Q : Exit → Act → World → Prop} {S : World → Prop} {l m id : Nat} {a : Act} {w : World} (hd : noDefer ops = true) (hL : ¬ LetsOut Q) (hm : P.follows .mixedOrders = true) (hS : S w.drew)
    (h : S w.drew → wpAnyH P .any ops Q S ops.size (Array.replicate ops.size false) a w.drew) : (Code.region id ops true).wpIn (Fence.wide.inRound l) m P Q a w :=
  wpIn_region_any hm (any_round hd hL _ _ _ _ (wpAny_of_held _ _ _ _ (h hS)))
end Go.Proofs.YtonleickhincgaaGreatDoor
/-
  A scope with several labels: what holds at each jump ('J l'), and a measure that every pass lowers. After the guide's law for one label (Derived/ScopeJumps).
-/
namespace Go.Proofs.YtonleickhincgaaGreatDoor
open Go

/-- As Q; by a goto to label l: J l. -/
def jumps (J : Nat → Act → World → Prop) (Q : Exit → Act → World → Prop) : Exit → Act → World → Prop
  | .goto l, a, w => J l a w
  | e, a, w => Q e a w

theorem wp_scope_many {P : Program} {a : Act} {w : World} {Q : Exit → Act → World → Prop} {c : Code} (R : Nat → Code) (J : Nat → Act → World → Prop) (μ : Nat → Act → World → Nat)
    (hf : ∀ l a w, J l a w → findLabel c l = some (R l))
    (N : Nat) (first : c.wp P (jumps (fun l' a' w' => J l' a' w' ∧ μ l' a' w' < N) Q) a w)
    (pass : ∀ l a w, J l a w → (R l).wp P (jumps (fun l' a' w' => J l' a' w' ∧ μ l' a' w' < μ l a w) Q) a w) : (Code.scope c).wp P Q a w := by
  intro b k cs
  have hg : ∀ l a w, J l a w → gotoIn l (.inScope c :: k) = some (.code (R l) :: .inScope c :: k) := fun l a w h => by simp [gotoIn, hf l a w h]
  have key : ∀ n l a w, μ l a w = n → J l a w → ∃ e a' w', Q e a' w' ∧ Arrives P (lone (b.at a (.code (R l) :: .inScope c :: k)) cs w) b k cs e a' w' := by
    intro n
    induction n using Nat.strongRecOn with
    | _ n ih =>
      intro l a w hn hJ
      obtain ⟨e, a₁, w₁, hq, harr⟩ := pass l a w hJ b (.inScope c :: k) cs
      cases e with
      | normal => exact ⟨.normal, a₁, w₁, hq, Steps.trans harr (.one step_inScope)⟩
      | exit id => exact ⟨.exit id, a₁, w₁, hq, fun k' hk => harr k' (by simp [exitTo, hk])⟩
      | goto l' =>
        obtain ⟨hJ', hlt⟩ := hq
        obtain ⟨e₂, a₂, w₂, hq₂, harr₂⟩ := ih _ (by omega) l' a₁ w₁ rfl hJ'
        exact ⟨e₂, a₂, w₂, hq₂, .of_steps (harr _ (hg l' a₁ w₁ hJ')) harr₂⟩
      | ret => exact ⟨_, a₁, w₁, hq, harr⟩
      | panic ch => exact ⟨_, a₁, w₁, hq, harr⟩
      | outgrown => exact ⟨_, a₁, w₁, hq, harr⟩
  obtain ⟨e, a₁, w₁, hq, harr⟩ := first b (.inScope c :: k) cs
  cases e with
  | normal => exact ⟨.normal, a₁, w₁, hq, .head step_scope (Steps.trans harr (.one step_inScope))⟩
  | exit id => exact ⟨.exit id, a₁, w₁, hq, fun k' hk => .head step_scope (harr k' (by simp [exitTo, hk]))⟩
  | goto l' =>
    obtain ⟨e₂, a₂, w₂, hq₂, harr₂⟩ := key _ l' a₁ w₁ rfl hq.1
    exact ⟨e₂, a₂, w₂, hq₂, .of_steps (.head step_scope (harr _ (hg l' a₁ w₁ hq.1))) harr₂⟩
  | ret => exact ⟨_, a₁, w₁, hq, .of_steps (.one step_scope) harr⟩
  | panic ch => exact ⟨_, a₁, w₁, hq, .of_steps (.one step_scope) harr⟩
  | outgrown => exact ⟨_, a₁, w₁, hq, .of_steps (.one step_scope) harr⟩

/-- Three labels, 0, 1 and 2. -/
def three {α : Type} (x0 x1 x2 z : α) : Nat → α
  | 0 => x0
  | 1 => x1
  | 2 => x2
  | _ => z

theorem wp_scope_three {P : Program} {a : Act} {w : World} {Q : Exit → Act → World → Prop} {c r0 r1 r2 : Code} (J0 J1 J2 : Act → World → Prop) (μ : Nat → Act → World → Nat) (N : Nat)
    (h0 : findLabel c 0 = some r0) (h1 : findLabel c 1 = some r1) (h2 : findLabel c 2 = some r2)
    (first : c.wp P (jumps (fun l' a' w' => three J0 J1 J2 (fun _ _ => False) l' a' w' ∧ μ l' a' w' < N) Q) a w)
    (pass0 : ∀ a w, J0 a w → r0.wp P (jumps (fun l' a' w' => three J0 J1 J2 (fun _ _ => False) l' a' w' ∧ μ l' a' w' < μ 0 a w) Q) a w)
    (pass1 : ∀ a w, J1 a w → r1.wp P (jumps (fun l' a' w' => three J0 J1 J2 (fun _ _ => False) l' a' w' ∧ μ l' a' w' < μ 1 a w) Q) a w)
    (pass2 : ∀ a w, J2 a w → r2.wp P (jumps (fun l' a' w' => three J0 J1 J2 (fun _ _ => False) l' a' w' ∧ μ l' a' w' < μ 2 a w) Q) a w) : (Code.scope c).wp P Q a w := by
  refine wp_scope_many (three r0 r1 r2 .skip) (three J0 J1 J2 (fun _ _ => False)) μ ?_ N first ?_
  · intro l a w h
    match l, h with
    | 0, _ => exact h0
    | 1, _ => exact h1
    | 2, _ => exact h2
    | l + 3, h => exact False.elim h
  · intro l a w h
    match l, h with
    | 0, h => exact pass0 a w h
    | 1, h => exact pass1 a w h
    | 2, h => exact pass2 a w h
    | l + 3, h => exact False.elim h
end Go.Proofs.YtonleickhincgaaGreatDoor
/-
  What readBits answers: what 'scan' finds from the place on; the world stands.
  Conditions: the text is at most 8000 bytes long; the place is from 0 to the greatest int64.
-/
namespace Go.Proofs.YtonleickhincgaaGreatDoor
open Go.RowKit
set_option linter.unusedVariables false

def rbV (s : ByteArray) (a : Nat) : Value :=
  if (scanAt s a).1 = 0 then .tuple #[.int .u64 (scanAt s a).2.1, .int .i64 ((a : Int) + ((scanAt s a).2.2 : Int)), .nilIface]
  else .tuple #[.int .u64 0, .int .i64 0, .iface 194 (.agg #[.int .i64 (scanAt s a).1])]
theorem rbV_bad {s : ByteArray} {a : Nat} {c : Int} (h : c ≠ 0 ∧ scanAt s a = (c, 0, 0)) : rbV s a = .tuple #[.int .u64 0, .int .i64 0, .iface 194 (.agg #[.int .i64 c])] := by
  unfold rbV; rw [h.2, if_neg h.1]
theorem rbV_ok {s : ByteArray} {a k : Nat} {u : Int} (h : scanAt s a = (0, u, k)) : rbV s a = .tuple #[.int .u64 u, .int .i64 ((a : Int) + (k : Int)), .nilIface] := by
  unfold rbV; rw [h, if_pos rfl]
theorem ret_valB {a b : Value} (h : a = b) : Ending.returned a = .returned b := by rw [h]

def rbM (l : Nat) (a : Act) : Nat := if l = 1 then 2 + (10 - (Go.RowKit.intOf (a.tmps.getD 9 undef)).toNat) else if l = 2 then 1 else 0

def BitAt (s : ByteArray) (i k : Nat) (b : Int) : Prop := ∃ h : i < s.size, b = (s[i].toNat : Int) ∧ (b < 128 ∨ k = 9)

def rbJ0 (s : ByteArray) (a : Nat) (w : World) (a' : Act) (w' : World) : Prop :=
  w' = w ∧ ∃ (at' u b cnt cc : Int) (x11 x12 x13 x14 x15 x16 x17 x18 x19 x20 x21 x22 x23 x24 x25 x26 x27 x28 x29 x30 x31 x32 x33 x34 x35 x36 x37 x38 x39 x40 x41 x42 x43 x44 x45 x46 x47 x48 x49 x50 x51 x52 x53 x54 x55 x56 x57 x58 x59 x60 x61 x62 : Value), a' = { tmps := #[.string s, .int .i64 (at'), undef, undef, .int .u64 0, .int .i64 0, .nilIface, .int .u64 (u), .int .u8 (b), .int .u64 (cnt), .int .i64 (cc), x11, x12, x13, x14, x15, x16, x17, x18, x19, x20, x21, x22, x23, x24, x25, x26, x27, x28, x29, x30, x31, x32, x33, x34, x35, x36, x37, x38, x39, x40, x41, x42, x43, x44, x45, x46, x47, x48, x49, x50, x51, x52, x53, x54, x55, x56, x57, x58, x59, x60, x61, x62], defers := [] } ∧ Hid (cc ≠ 0 ∧ scanAt s a = (cc, 0, 0))
theorem rbJ0_mk {s : ByteArray} {a : Nat} {w : World} {at' u b cnt cc : Int} {x11 x12 x13 x14 x15 x16 x17 x18 x19 x20 x21 x22 x23 x24 x25 x26 x27 x28 x29 x30 x31 x32 x33 x34 x35 x36 x37 x38 x39 x40 x41 x42 x43 x44 x45 x46 x47 x48 x49 x50 x51 x52 x53 x54 x55 x56 x57 x58 x59 x60 x61 x62 : Value} (h : Hid (cc ≠ 0 ∧ scanAt s a = (cc, 0, 0))) : rbJ0 s a w { tmps := #[.string s, .int .i64 (at'), undef, undef, .int .u64 0, .int .i64 0, .nilIface, .int .u64 (u), .int .u8 (b), .int .u64 (cnt), .int .i64 (cc), x11, x12, x13, x14, x15, x16, x17, x18, x19, x20, x21, x22, x23, x24, x25, x26, x27, x28, x29, x30, x31, x32, x33, x34, x35, x36, x37, x38, x39, x40, x41, x42, x43, x44, x45, x46, x47, x48, x49, x50, x51, x52, x53, x54, x55, x56, x57, x58, x59, x60, x61, x62], defers := [] } w :=
  ⟨rfl, at', u, b, cnt, cc, x11, x12, x13, x14, x15, x16, x17, x18, x19, x20, x21, x22, x23, x24, x25, x26, x27, x28, x29, x30, x31, x32, x33, x34, x35, x36, x37, x38, x39, x40, x41, x42, x43, x44, x45, x46, x47, x48, x49, x50, x51, x52, x53, x54, x55, x56, x57, x58, x59, x60, x61, x62, rfl, h⟩
def rbJ1 (s : ByteArray) (a : Nat) (w : World) (a' : Act) (w' : World) : Prop :=
  w' = w ∧ ∃ (k : Nat) (u b : Int) (x11 x12 x13 x14 x15 x16 x17 x18 x19 x20 x21 x22 x23 x24 x25 x26 x27 x28 x29 x30 x31 x32 x33 x34 x35 x36 x37 x38 x39 x40 x41 x42 x43 x44 x45 x46 x47 x48 x49 x50 x51 x52 x53 x54 x55 x56 x57 x58 x59 x60 x61 x62 : Value), a' = { tmps := #[.string s, .int .i64 ((a : Int) + (k : Int)), undef, undef, .int .u64 0, .int .i64 0, .nilIface, .int .u64 (u), .int .u8 (b), .int .u64 ((k : Int)), .int .i64 (4), x11, x12, x13, x14, x15, x16, x17, x18, x19, x20, x21, x22, x23, x24, x25, x26, x27, x28, x29, x30, x31, x32, x33, x34, x35, x36, x37, x38, x39, x40, x41, x42, x43, x44, x45, x46, x47, x48, x49, x50, x51, x52, x53, x54, x55, x56, x57, x58, x59, x60, x61, x62], defers := [] } ∧ Hid (GetTo s a k u) ∧ k ≤ 9 ∧ 0 ≤ u ∧ (0 < k → a + k ≤ 8000)
theorem rbJ1_mk {s : ByteArray} {a : Nat} {w : World} {k : Nat} {at' u' cnt u b : Int} {x11 x12 x13 x14 x15 x16 x17 x18 x19 x20 x21 x22 x23 x24 x25 x26 x27 x28 x29 x30 x31 x32 x33 x34 x35 x36 x37 x38 x39 x40 x41 x42 x43 x44 x45 x46 x47 x48 x49 x50 x51 x52 x53 x54 x55 x56 x57 x58 x59 x60 x61 x62 : Value} (e1 : at' = (a : Int) + (k : Int)) (e2 : u' = u) (e3 : cnt = (k : Int)) (h : Hid (GetTo s a k u)) (h1 : k ≤ 9) (h2 : 0 ≤ u) (h3 : 0 < k → a + k ≤ 8000) : rbJ1 s a w { tmps := #[.string s, .int .i64 (at'), undef, undef, .int .u64 0, .int .i64 0, .nilIface, .int .u64 (u'), .int .u8 (b), .int .u64 (cnt), .int .i64 (4), x11, x12, x13, x14, x15, x16, x17, x18, x19, x20, x21, x22, x23, x24, x25, x26, x27, x28, x29, x30, x31, x32, x33, x34, x35, x36, x37, x38, x39, x40, x41, x42, x43, x44, x45, x46, x47, x48, x49, x50, x51, x52, x53, x54, x55, x56, x57, x58, x59, x60, x61, x62], defers := [] } w := by
  subst e1 e2 e3
  exact ⟨rfl, k, u', b, x11, x12, x13, x14, x15, x16, x17, x18, x19, x20, x21, x22, x23, x24, x25, x26, x27, x28, x29, x30, x31, x32, x33, x34, x35, x36, x37, x38, x39, x40, x41, x42, x43, x44, x45, x46, x47, x48, x49, x50, x51, x52, x53, x54, x55, x56, x57, x58, x59, x60, x61, x62, rfl, h, h1, h2, h3⟩
def rbJ2 (s : ByteArray) (a : Nat) (w : World) (a' : Act) (w' : World) : Prop :=
  w' = w ∧ ∃ (k : Nat) (u b : Int) (x11 x12 x13 x14 x15 x16 x17 x18 x19 x20 x21 x22 x23 x24 x25 x26 x27 x28 x29 x30 x31 x32 x33 x34 x35 x36 x37 x38 x39 x40 x41 x42 x43 x44 x45 x46 x47 x48 x49 x50 x51 x52 x53 x54 x55 x56 x57 x58 x59 x60 x61 x62 : Value), a' = { tmps := #[.string s, .int .i64 ((a : Int) + (k : Int) + 1), undef, undef, .int .u64 0, .int .i64 0, .nilIface, .int .u64 (u), .int .u8 (b), .int .u64 ((k : Int) + 1), .int .i64 (4), x11, x12, x13, x14, x15, x16, x17, x18, x19, x20, x21, x22, x23, x24, x25, x26, x27, x28, x29, x30, x31, x32, x33, x34, x35, x36, x37, x38, x39, x40, x41, x42, x43, x44, x45, x46, x47, x48, x49, x50, x51, x52, x53, x54, x55, x56, x57, x58, x59, x60, x61, x62], defers := [] } ∧ Hid (GetTo s a k u) ∧ k ≤ 9 ∧ 0 ≤ u ∧ a + k ≤ 8000 ∧ 0 ≤ b ∧ b ≤ 255 ∧ BitAt s (a + k) k b
theorem rbJ2_mk {s : ByteArray} {a : Nat} {w : World} {k : Nat} {at' cnt u b : Int} {x11 x12 x13 x14 x15 x16 x17 x18 x19 x20 x21 x22 x23 x24 x25 x26 x27 x28 x29 x30 x31 x32 x33 x34 x35 x36 x37 x38 x39 x40 x41 x42 x43 x44 x45 x46 x47 x48 x49 x50 x51 x52 x53 x54 x55 x56 x57 x58 x59 x60 x61 x62 : Value} (e1 : at' = (a : Int) + (k : Int) + 1) (e3 : cnt = (k : Int) + 1) (h : Hid (GetTo s a k u)) (h1 : k ≤ 9) (h2 : 0 ≤ u) (h3 : a + k ≤ 8000) (h4 : 0 ≤ b) (h5 : b ≤ 255) (h6 : BitAt s (a + k) k b) : rbJ2 s a w { tmps := #[.string s, .int .i64 (at'), undef, undef, .int .u64 0, .int .i64 0, .nilIface, .int .u64 (u), .int .u8 (b), .int .u64 (cnt), .int .i64 (4), x11, x12, x13, x14, x15, x16, x17, x18, x19, x20, x21, x22, x23, x24, x25, x26, x27, x28, x29, x30, x31, x32, x33, x34, x35, x36, x37, x38, x39, x40, x41, x42, x43, x44, x45, x46, x47, x48, x49, x50, x51, x52, x53, x54, x55, x56, x57, x58, x59, x60, x61, x62], defers := [] } w := by
  subst e1 e3
  exact ⟨rfl, k, u, b, x11, x12, x13, x14, x15, x16, x17, x18, x19, x20, x21, x22, x23, x24, x25, x26, x27, x28, x29, x30, x31, x32, x33, x34, x35, x36, x37, x38, x39, x40, x41, x42, x43, x44, x45, x46, x47, x48, x49, x50, x51, x52, x53, x54, x55, x56, x57, x58, x59, x60, x61, x62, rfl, h, h1, h2, h3, h4, h5, h6⟩

set_option maxRecDepth 20000 in
set_option maxHeartbeats 4000000 in
theorem readBits_any (s : ByteArray) (a : Nat) (w : World) (hs : s.size ≤ 8000) (h1 : (a : Int) ≤ 9223372036854775807) :
    Calls Tryz.prog 148 #[.string s, .int .i64 a] w fun e w' => e = .returned (rbV s a) ∧ w' = w := by
  go_enter Tryz.func148, Tryz.ntmps148
  go_wp2
  refine wp_scope_three (rbJ0 s a w) (rbJ1 s a w) (rbJ2 s a w) (fun l a' _ => rbM l a') 13 rfl rfl rfl ?_ ?_ ?_ ?_
  · have HT : Hid (GetTo s a 0 0) := getTo_start s a
    by_cases hl : s.size ≤ a
    · have H4 : Hid ((4 : Int) ≠ 0 ∧ scanAt s a = (4, 0, 0)) := ⟨by decide, getTo_short HT.out (by omega)⟩
      go_wp2
      go_step3
      go_wp2
      go_step3
      exact ⟨rbJ0_mk H4, by simp [rbM]⟩
    · have hin : a < s.size := by omega
      have hcb : (s[a].toNat : Int) ≤ 255 := by have := s[a].toNat_lt; omega
      by_cases hc : (s[a].toNat : Int) < 128
      · have HB : BitAt s (a + 0) 0 (s[a].toNat : Int) := ⟨hin, rfl, .inl hc⟩
        go_wp2
        go_step3
        go_wp2
        go_step3
        exact ⟨rbJ2_mk (k := 0) (by simp) (by simp) HT (by omega) (by omega) (by omega) (by omega) hcb HB, by simp [rbM]⟩
      · have HM : Hid (GetTo s a 1 (0 + ((s[a].toNat : Int) - 128) * 2 ^ (7 * 0))) := getTo_more HT.out hin (by omega) (show 128 ≤ (s[a].toNat : Int) by omega)
        have HE : Hid (bits .or .u64 0 (IntKind.u64.wrap (IntKind.u64.wrap (bits .and .u8 (s[a].toNat : Int) 127))) = 0 + ((s[a].toNat : Int) - 128) * 2 ^ (7 * 0)) := by
          show _ = _
          have e := impl_or (k := 0) (u := 0) (x := (s[a].toNat : Int) % 128) (by omega) (by omega) (by decide) (by omega) (by omega) (by omega)
          have e1 : (s[a].toNat : Int) % 128 * 2 ^ (7 * 0) = (s[a].toNat : Int) % 128 := by simp
          have e2 : ((s[a].toNat : Int) - 128) * 2 ^ (7 * 0) = (s[a].toNat : Int) - 128 := by simp
          rw [e1] at e
          rw [and127 _ (by omega) hcb, wrap_small ((s[a].toNat : Int) % 128) (by omega) (by omega), e, e2]
          omega
        go_wp2
        go_step3
        go_wp2
        go_step3
        exact ⟨rbJ1_mk (k := 1) (by go_num) HE.out (by go_num) HM (by omega) HM.out.2.1 (fun _ => by omega), by simp [rbM, Go.RowKit.intOf]⟩
  · rintro a' w' ⟨rfl, at', u, b, cnt, cc, x11, x12, x13, x14, x15, x16, x17, x18, x19, x20, x21, x22, x23, x24, x25, x26, x27, x28, x29, x30, x31, x32, x33, x34, x35, x36, x37, x38, x39, x40, x41, x42, x43, x44, x45, x46, x47, x48, x49, x50, x51, x52, x53, x54, x55, x56, x57, x58, x59, x60, x61, x62, rfl, HS⟩
    have HR : Hid (rbV s a = .tuple #[.int .u64 0, .int .i64 0, .iface 194 (.agg #[.int .i64 cc])]) := rbV_bad HS.out
    go_wp2
    simp only [jumps]
    go_ret3
    exact ⟨ret_valB HR.out.symm, rfl⟩
  · rintro a' w' ⟨rfl, k, u, b, x11, x12, x13, x14, x15, x16, x17, x18, x19, x20, x21, x22, x23, x24, x25, x26, x27, x28, x29, x30, x31, x32, x33, x34, x35, x36, x37, x38, x39, x40, x41, x42, x43, x44, x45, x46, x47, x48, x49, x50, x51, x52, x53, x54, x55, x56, x57, x58, x59, x60, x61, x62, rfl, HT, hk, hu0, hak⟩
    by_cases hl : s.size ≤ a + k
    · have H4 : Hid ((4 : Int) ≠ 0 ∧ scanAt s a = (4, 0, 0)) := ⟨by decide, getTo_short HT.out hl⟩
      go_wp2
      go_step3
      exact ⟨rbJ0_mk H4, by simp [rbM, Go.RowKit.intOf]; try omega⟩
    · have hin : a + k < s.size := by omega
      have hcb : (s[a + k].toNat : Int) ≤ 255 := by have := s[a + k].toNat_lt; omega
      by_cases hc : (s[a + k].toNat : Int) < 128
      · have HB : BitAt s (a + k) k (s[a + k].toNat : Int) := ⟨hin, rfl, .inl hc⟩
        go_wp2
        go_step3
        exact ⟨rbJ2_mk rfl rfl HT hk hu0 (by omega) (by omega) hcb HB, by simp [rbM, Go.RowKit.intOf]; try omega⟩
      · cases k9 : ((k : Int) + 1 == 10)
        · have hk8 : k ≤ 8 := by simp at k9; omega
          have HM : Hid (GetTo s a (k + 1) (u + ((s[a + k].toNat : Int) - 128) * 2 ^ (7 * k))) := getTo_more HT.out hin hk8 (by omega)
          have HE : Hid (bits .or .u64 u (IntKind.u64.wrap (IntKind.u64.wrap (bits .and .u8 (s[a + k].toNat : Int) 127) * 2 ^ (7 * k))) = u + ((s[a + k].toNat : Int) - 128) * 2 ^ (7 * k)) := by
            show _ = _
            rw [and127 _ (by omega) hcb, wrap_small ((s[a + k].toNat : Int) % 128) (by omega) (by omega), impl_or hk hu0 HT.out.2.2.1 (by omega) (by omega) (by omega), show (s[a + k].toNat : Int) % 128 = (s[a + k].toNat : Int) - 128 by omega]
          go_wp2
          go_step3
          exact ⟨rbJ1_mk (by go_num) HE.out (by go_num) HM (by omega) HM.out.2.1 (fun _ => by omega), by simp [rbM, Go.RowKit.intOf]; omega⟩
        · have HB : BitAt s (a + k) k (s[a + k].toNat : Int) := ⟨hin, rfl, .inr (by simp at k9; omega)⟩
          go_wp2
          go_step3
          exact ⟨rbJ2_mk rfl rfl HT hk hu0 (by omega) (by omega) hcb HB, by simp [rbM, Go.RowKit.intOf]; try omega⟩
  · rintro a' w' ⟨rfl, k, u, b, x11, x12, x13, x14, x15, x16, x17, x18, x19, x20, x21, x22, x23, x24, x25, x26, x27, x28, x29, x30, x31, x32, x33, x34, x35, x36, x37, x38, x39, x40, x41, x42, x43, x44, x45, x46, x47, x48, x49, x50, x51, x52, x53, x54, x55, x56, x57, x58, x59, x60, x61, x62, rfl, HT, hk, hu0, hak, hb0, hb1, HB⟩
    obtain ⟨hin, hbe, hbk⟩ := HB
    have HBE : Hid (b = (s[a + k].toNat : Int)) := hbe
    clear hbe
    by_cases hbig : k = 9 ∧ 1 < b
    · have H3 : Hid ((3 : Int) ≠ 0 ∧ scanAt s a = (3, 0, 0)) := ⟨by decide, getTo_big HT.out hin hbig.1 (by rw [← HBE.out]; exact hbig.2)⟩
      have k9 : ((k : Int) + 1 == 10) = true := by simp; omega
      have hb2 : 1 < b := hbig.2
      clear hbig hbk
      go_wp2
      go_step3
      exact ⟨rbJ0_mk H3, by simp [rbM]⟩
    have h9 : k = 9 → b ≤ 1 := fun e => by omega
    have h128 : b < 128 := by omega
    have H9 : Hid (k = 9 → b ≤ 1) := h9
    have k9i : ((k : Int) + 1 == 10) = true → b ≤ 1 := fun e => h9 (by simp at e; omega)
    have K9 : Hid (((k : Int) + 1 == 10) = true → b ≤ 1) := k9i
    clear hbig hbk h9 k9i
    by_cases hz : b = 0 ∧ 0 < k
    · have H3 : Hid ((3 : Int) ≠ 0 ∧ scanAt s a = (3, 0, 0)) := ⟨by decide, getTo_zero HT.out hin (by rw [← HBE.out]; exact hz.1) hz.2⟩
      have b0 : (b == 0) = true := by simp; omega
      have hb2 : b ≤ 0 := by omega
      have hkp : 0 < k := hz.2
      clear hz
      cases k9 : ((k : Int) + 1 == 10)
      · go_wp2
        go_step3
        exact ⟨rbJ0_mk H3, by simp [rbM]⟩
      · go_wp2
        go_step3
        exact ⟨rbJ0_mk H3, by simp [rbM]⟩
    · have hsc := getTo_ok HT.out hin (by rw [← HBE.out]; exact h128) (fun e => by rw [← HBE.out]; exact H9.out e) (fun hp hc0 => hz ⟨by rw [HBE.out]; exact hc0, hp⟩)
      have HO : Hid (bits .or .u64 u (IntKind.u64.wrap (b * 2 ^ (7 * k))) = u + b * 2 ^ (7 * k)) := impl_or hk hu0 HT.out.2.2.1 hb0 (by omega) H9.out
      have HR : Hid (rbV s a = .tuple #[.int .u64 (bits .or .u64 u (IntKind.u64.wrap (b * 2 ^ (7 * k)))), .int .i64 ((a : Int) + (k : Int) + 1), .nilIface]) := by
        show _ = _
        rw [rbV_ok hsc, ← HBE.out, HO.out]
        rfl
      have Hz : Hid ((b == 0) = true → (k : Int) ≤ 0) := fun e => by simp at e; omega
      clear hz hsc
      cases k9 : ((k : Int) + 1 == 10)
      · cases b0 : (b == 0)
        · go_wp2
          all_goals simp only [jumps]
          all_goals go_ret3
          all_goals exact ⟨ret_valB HR.out.symm, rfl⟩
        · have hk0 := Hz.out b0
          go_wp2
          all_goals simp only [jumps]
          all_goals go_ret3
          all_goals exact ⟨ret_valB HR.out.symm, rfl⟩
      · have hb2 := K9.out k9
        cases b0 : (b == 0)
        · go_wp2
          all_goals simp only [jumps]
          all_goals go_ret3
          all_goals exact ⟨ret_valB HR.out.symm, rfl⟩
        · have hk0 := Hz.out b0
          exfalso
          simp at k9; omega
end Go.Proofs.YtonleickhincgaaGreatDoor
