/-
  Parts of one proof, laid as one text: AsD, As2, CodeOf, Scopes, ReadBits; what each says stands at its head.
-/
import Derived.Test.YtifomfimfdgjjaaGreatDoorRows
import Derived.WalkKit
import Derived.LaidEql
import Derived.Stop.Asserts
import Derived.RowKitTokens
import Derived.Handy
import Derived.Test.YtifomfimfdgjjaaGreatDoorBytesDigMath
import Derived.ScopeJumps
import Derived.WalkMore
import Derived.Test.YtifomfimfdgjjaaGreatDoorJoinedPutTextFldMathFldRiseScanMath
/-
  errors.As at the target *wrongBytes, by its contracts: a nil error: false, nothing turns; an error that is a wrongBytes: true, and the target holds it; nothing else that was there turns. After the guide's worked example of errors.As.
  Conditions: the variable errors.errorType holds the handle of the type error; the target's cell is there and may be written.
-/
namespace Go.Proofs.YtifomfimfdgjjaaGreatDoor
open Go.RowKit Go.Extern.Stop Go.Stop Go.Extern

theorem as_nil (t : Value) (w : World) :
    Calls Tryz.prog 240 #[.nilIface, t] w fun e w' => e = .returned (.bool false) ∧ w' = w := by
  go_enter Tryz.func240, Tryz.ntmps240
  go_wp2
  go_ret
  exact ⟨rfl, rfl⟩

theorem valueOfP (t : Addr) (w : World) : (ReflectliteValue.unpack (.iface 285 (.pointer (some t)))).run Tryz.prog w
    = .ok (.agg #[.pointer (some ⟨3, 285, none⟩), .pointer (some ⟨w.heap.size, 0, none⟩), .int .u64 150]) (w.alloc (.cells #[.pointer (some t)] 285)) := by kernel_rfl
theorem typeP (a : Addr) (w : World) : (ReflectliteValue.methodAny (ReflectliteValue.valueError "reflectlite.Value.Type" 0) (fun t _ _ _ => ReflectliteType.toType t) #[.agg #[.pointer (some ⟨3, 285, none⟩), .pointer (some a), .int .u64 150]]).run Tryz.prog w
    = .ok (.iface 312 (.agg #[.pointer (some ⟨3, 285, none⟩)])) w := by kernel_rfl
theorem kindP (w : World) : ((ReflectliteType.abiMethod fun t => (fun a : Nat => Value.int IntKind.u8 (a : Int)) <$> Rtype.kind t) #[.pointer (some ⟨3, 285, none⟩)]).run Tryz.prog w = .ok (.int .u8 22) w := by kernel_rfl
theorem kindE (w : World) : ((ReflectliteType.abiMethod fun t => (fun a : Nat => Value.int IntKind.u8 (a : Int)) <$> Rtype.kind t) #[.pointer (some ⟨3, 281, none⟩)]).run Tryz.prog w = .ok (.int .u8 25) w := by kernel_rfl
theorem partsP (a : Addr) (w : World) : (ReflectliteValue.parts (.agg #[.pointer (some ⟨3, 285, none⟩), .pointer (some a), .int .u64 150])).run Tryz.prog w = .ok (some (285, a, 150)) w := by kernel_rfl
theorem isNilP (a p : Addr) (W : World) (ha : W.cell? a = some (.pointer (some p))) :
    (ReflectliteValue.method (ReflectliteValue.valueError "reflectlite.Value.IsNil" 0) ReflectliteValue.isNil #[.agg #[.pointer (some ⟨3, 285, none⟩), .pointer (some a), .int .u64 150]]).run Tryz.prog W = .ok (.bool false) W := by
  show (Sem.run Tryz.prog (ReflectliteValue.parts (.agg #[.pointer (some ⟨3, 285, none⟩), .pointer (some a), .int .u64 150]) >>= _) W) = _
  simp only [Sem.run_bind, partsP, Result.andThen]
  simp [ReflectliteValue.isNil, loadVar, isAgg, underlying, Tryz.underlying285, ha, Result.andThen]
theorem elemTP (w : World) : (ReflectliteType.method ReflectliteType.elem #[.agg #[.pointer (some ⟨3, 285, none⟩)]]).run Tryz.prog w = .ok (.iface 312 (.agg #[.pointer (some ⟨3, 281, none⟩)])) w := by kernel_rfl
theorem implementsE (w : World) : (ReflectliteType.relation "Implements" ReflectliteType.implements_ #[.agg #[.pointer (some ⟨3, 281, none⟩)], .iface 312 (.agg #[.pointer (some ⟨3, 275, none⟩)])]).run Tryz.prog w = .ok (.bool true) w := by kernel_rfl
theorem typeOfE (v : Value) (w : World) : (ReflectliteType.typeOf #[.iface 281 v]).run Tryz.prog w = .ok (.iface 312 (.agg #[.pointer (some ⟨3, 281, none⟩)])) w := by kernel_rfl
theorem assignableE (w : World) : (ReflectliteType.relation "AssignableTo" ReflectliteType.assignableTo #[.agg #[.pointer (some ⟨3, 281, none⟩)], .iface 312 (.agg #[.pointer (some ⟨3, 281, none⟩)])]).run Tryz.prog w = .ok (.bool true) w := by kernel_rfl
theorem valueOfE (c : Int) (w : World) : (ReflectliteValue.unpack (.iface 281 (.agg #[.int .i64 c]))).run Tryz.prog w
    = .ok (.agg #[.pointer (some ⟨3, 281, none⟩), .pointer (some ⟨w.heap.size, 0, none⟩), .int .u64 153]) (w.alloc (.cells #[.int .i64 c] 281)) := by kernel_rfl
theorem elemOfP (w : World) : (Rtype.elem? 285).run Tryz.prog w = .ok (some 281) w := by kernel_rfl
theorem mkE (p : Addr) (w : World) : (ReflectliteValue.mk 281 p ReflectliteValue.flagAddr).run Tryz.prog w = .ok (.agg #[.pointer (some ⟨3, 281, none⟩), .pointer (some p), .int .u64 409]) w := by kernel_rfl
theorem elemVP (a p : Addr) (W : World) (ha : W.cell? a = some (.pointer (some p))) :
    (ReflectliteValue.method (ReflectliteValue.valueError "reflectlite.Value.Elem" 0) ReflectliteValue.elem #[.agg #[.pointer (some ⟨3, 285, none⟩), .pointer (some a), .int .u64 150]]).run Tryz.prog W
      = .ok (.agg #[.pointer (some ⟨3, 281, none⟩), .pointer (some p), .int .u64 409]) W := by
  show (Sem.run Tryz.prog (ReflectliteValue.parts (.agg #[.pointer (some ⟨3, 285, none⟩), .pointer (some a), .int .u64 150]) >>= _) W) = _
  simp only [Sem.run_bind, partsP, Result.andThen]
  simp [ReflectliteValue.elem, loadVar, isAgg, underlying, Tryz.underlying285, ha, Result.andThen, elemOfP, mkE]

theorem partsEa (a : Addr) (w : World) : (ReflectliteValue.parts (.agg #[.pointer (some ⟨3, 281, none⟩), .pointer (some a), .int .u64 409])).run Tryz.prog w = .ok (some (281, a, 409)) w := by kernel_rfl
theorem partsE (a : Addr) (w : World) : (ReflectliteValue.parts (.agg #[.pointer (some ⟨3, 281, none⟩), .pointer (some a), .int .u64 153])).run Tryz.prog w = .ok (some (281, a, 153)) w := by kernel_rfl
theorem directE (w : World) : (Rtype.directlyAssignable 281 281).run Tryz.prog w = .ok true w := by kernel_rfl
theorem sizeE (w : World) : (sizeOf 281).run Tryz.prog w = .ok 1 w := by kernel_rfl
theorem isAggE (w : World) : (isAgg 281).run Tryz.prog w = .ok true w := by kernel_rfl
theorem setE (b1 b2 : Nat) (c : Int) (old : Value) (W : World) (hb : W.cell? ⟨b2, 0, none⟩ = some (.int .i64 c)) (ht : W.cell? ⟨b1, 0, none⟩ = some old) (hf : W.frozen? ⟨b1, 0, none⟩ = false) :
    (ReflectliteValue.set #[.agg #[.pointer (some ⟨3, 281, none⟩), .pointer (some ⟨b1, 0, none⟩), .int .u64 409], .agg #[.pointer (some ⟨3, 281, none⟩), .pointer (some ⟨b2, 0, none⟩), .int .u64 153]]).run Tryz.prog W
      = .ok (.tuple #[]) (W.setCell ⟨b1, 0, none⟩ (.int .i64 c)) := by
  show (Sem.run Tryz.prog (ReflectliteValue.parts (.agg #[.pointer (some ⟨3, 281, none⟩), .pointer (some ⟨b1, 0, none⟩), .int .u64 409]) >>= fun x => ReflectliteValue.parts (.agg #[.pointer (some ⟨3, 281, none⟩), .pointer (some ⟨b2, 0, none⟩), .int .u64 153]) >>= _) W) = _
  simp only [Sem.run_bind, partsEa, partsE, Result.andThen]
  simp [ReflectliteValue.flagAddr, loadVar, Result.andThen, directE, storeVar, Value.cells, storeCells, Addr.add]
  have hl : (loadCells ⟨b2, 0, none⟩ 1).run Tryz.prog W = .ok #[.int .i64 c] W := by
    have := run_loadCells (P := Tryz.prog) W ⟨b2, 0, none⟩ 1 (fun _ => .int .i64 c) (fun j hj => by
      obtain rfl : j = 0 := by omega
      simpa [Addr.add] using hb)
    simpa using this
  rw [hl]
  simp [storeCells, Addr.add]
  rw [run_store Tryz.prog W ⟨b1, 0, none⟩ _ _ (by rfl)]
  simp [ht, hf]
end Go.Proofs.YtifomfimfdgjjaaGreatDoor
/-
  errors.As at the target *wrongBytes, and what codeOf answers. After the guide's worked example of errors.As.
  Conditions: the variable errors.errorType holds the handle of the type error; the target's cell is there and may be written.
-/
namespace Go.Proofs.YtifomfimfdgjjaaGreatDoor
open Go.RowKit Go.Extern.Stop Go.Stop Go.Extern

def etv : Value := .iface 312 (.agg #[.pointer (some ⟨3, 275, none⟩)])

set_option maxHeartbeats 4000000 in
theorem as_hit (c : Int) (tb : Nat) (old : Value) (w : World) (hg : w.cell? ⟨1, 0, none⟩ = some (.iface 312 (.agg #[.pointer (some ⟨3, 275, none⟩)]))) (ht0 : w.cell? ⟨tb, 0, none⟩ = some old) (hf0 : w.frozen? ⟨tb, 0, none⟩ = false) :
    Calls Tryz.prog 240 #[.iface 281 (.agg #[.int .i64 c]), .iface 285 (.pointer (some ⟨tb, 0, none⟩))] w fun ev w' => ev = .returned (.bool true) ∧ w' = ((((w.alloc (.cells #[.pointer (some ⟨tb, 0, none⟩)] 285)).alloc (.cells #[.pointer (some ⟨3, 285, none⟩), .pointer (some ⟨w.heap.size, 0, none⟩), .int .u64 150] 296)).alloc (.cells #[.pointer (some ⟨3, 285, none⟩), .pointer (some ⟨w.heap.size, 0, none⟩), .int .u64 150] 296)).alloc (.cells #[.int .i64 c] 281)).setCell ⟨tb, 0, none⟩ (.int .i64 c) := by
  have h6 := @run_callFunc_extern Tryz.prog 247 _ (fun args => ReflectliteValue.unpack (args.getD 0 (.tuple #[]))) Tryz.func247 (by kernel_rfl) (by kernel_rfl) (by kernel_rfl) (by kernel_rfl)
  have h7 := @run_callFunc_extern Tryz.prog 248 _ (ReflectliteValue.methodAny (ReflectliteValue.valueError "reflectlite.Value.Type" 0) (fun t _ _ _ => ReflectliteType.toType t)) Tryz.func248 (by kernel_rfl) (by kernel_rfl) (by kernel_rfl) (by kernel_rfl)
  have h8 := @run_callFunc_extern Tryz.prog 249 _ (ReflectliteValue.method (ReflectliteValue.valueError "reflectlite.Value.IsNil" 0) ReflectliteValue.isNil) Tryz.func249 (by kernel_rfl) (by kernel_rfl) (by kernel_rfl) (by kernel_rfl)
  have h27 := @run_callFunc_extern Tryz.prog 290 _ (ReflectliteType.abiMethod fun t => do pure (.int .u8 (← Rtype.kind t))) Tryz.func290 (by kernel_rfl) (by kernel_rfl) (by kernel_rfl) (by kernel_rfl)
  have h37 := @run_callFunc_extern Tryz.prog 301 _ (ReflectliteType.method ReflectliteType.elem) Tryz.func301 (by kernel_rfl) (by kernel_rfl) (by kernel_rfl) (by kernel_rfl)
  have h38 := @run_callFunc_extern Tryz.prog 302 _ (ReflectliteType.relation "Implements" ReflectliteType.implements_) Tryz.func302 (by kernel_rfl) (by kernel_rfl) (by kernel_rfl) (by kernel_rfl)
  have h10 := @run_callFunc_extern Tryz.prog 257 _ ReflectliteType.typeOf Tryz.func257 (by kernel_rfl) (by kernel_rfl) (by kernel_rfl) (by kernel_rfl)
  have h35 := @run_callFunc_extern Tryz.prog 299 _ (ReflectliteType.relation "AssignableTo" ReflectliteType.assignableTo) Tryz.func299 (by kernel_rfl) (by kernel_rfl) (by kernel_rfl) (by kernel_rfl)
  have h11 := @run_callFunc_extern Tryz.prog 258 _ (ReflectliteValue.method (ReflectliteValue.valueError "reflectlite.Value.Elem" 0) ReflectliteValue.elem) Tryz.func258 (by kernel_rfl) (by kernel_rfl) (by kernel_rfl) (by kernel_rfl)
  have h12 := @run_callFunc_extern Tryz.prog 259 _ ReflectliteValue.set Tryz.func259 (by kernel_rfl) (by kernel_rfl) (by kernel_rfl) (by kernel_rfl)
  have tO := typeOfE
  have aE := assignableE
  have vE := valueOfE
  have f6 := valueOfP
  have f7 := typeP
  have kP := kindP
  have kE := kindE
  have eP := elemTP
  have iE := implementsE
  have n8 := isNilP ⟨w.heap.size, 0, none⟩ ⟨tb, 0, none⟩ ((w.alloc (.cells #[.pointer (some ⟨tb, 0, none⟩)] 285)).alloc (.cells #[.pointer (some ⟨3, 285, none⟩), .pointer (some ⟨w.heap.size, 0, none⟩), .int .u64 150] 296)) (by simp)
  have hlt : 1 < w.heap.size := World.block_lt_of_cell? w _ hg
  have hg2 : ((w.alloc (.cells #[.pointer (some ⟨tb, 0, none⟩)] 285)).alloc (.cells #[.pointer (some ⟨3, 285, none⟩), .pointer (some ⟨w.heap.size, 0, none⟩), .int .u64 150] 296)).cell? ⟨1, 0, none⟩ = some (.iface 312 (.agg #[.pointer (some ⟨3, 275, none⟩)])) := by
    rw [World.cell?_alloc_lt _ _ ⟨1, 0, none⟩ (by simp <;> omega), World.cell?_alloc_lt _ _ ⟨1, 0, none⟩ hlt]; exact hg
  have htl : tb < w.heap.size := by
    rcases Nat.lt_or_ge tb w.heap.size with h | h
    · exact h
    · simp [World.cell?, Array.getElem?_eq_none h] at ht0
  have el := elemVP ⟨w.heap.size, 0, none⟩ ⟨tb, 0, none⟩ (((w.alloc (.cells #[.pointer (some ⟨tb, 0, none⟩)] 285)).alloc (.cells #[.pointer (some ⟨3, 285, none⟩), .pointer (some ⟨w.heap.size, 0, none⟩), .int .u64 150] 296)).alloc (.cells #[.pointer (some ⟨3, 285, none⟩), .pointer (some ⟨w.heap.size, 0, none⟩), .int .u64 150] 296)) (by rw [World.cell?_alloc_lt _ _ ⟨w.heap.size, 0, none⟩ (by simp; omega)]; simp)
  have st := setE tb (w.heap.size + 1 + 1 + 1) c old ((((w.alloc (.cells #[.pointer (some ⟨tb, 0, none⟩)] 285)).alloc (.cells #[.pointer (some ⟨3, 285, none⟩), .pointer (some ⟨w.heap.size, 0, none⟩), .int .u64 150] 296)).alloc (.cells #[.pointer (some ⟨3, 285, none⟩), .pointer (some ⟨w.heap.size, 0, none⟩), .int .u64 150] 296)).alloc (.cells #[.int .i64 c] 281))
    (by rw [World.cell?_alloc_at _ _ _ _ (by simp)]; rfl)
    (by rw [World.cell?_alloc_lt _ _ ⟨tb, 0, none⟩ (by simp; omega), World.cell?_alloc_lt _ _ ⟨tb, 0, none⟩ (by simp; omega), World.cell?_alloc_lt _ _ ⟨tb, 0, none⟩ (by simp; omega), World.cell?_alloc_lt _ _ ⟨tb, 0, none⟩ htl]; exact ht0)
    (by rw [World.frozen?_alloc_old _ _ ⟨tb, 0, none⟩ (by simp; omega), World.frozen?_alloc_old _ _ ⟨tb, 0, none⟩ (by simp; omega), World.frozen?_alloc_old _ _ ⟨tb, 0, none⟩ (by simp; omega), World.frozen?_alloc_old _ _ ⟨tb, 0, none⟩ (Nat.ne_of_lt htl)]; exact hf0)
  go_enter Tryz.func240, Tryz.ntmps240
  go_wp2
  refine wp_loop_rounds 1 ?_
  rw [rounds_succ]
  go_wp2
  go_ret
  exact ⟨rfl, rfl⟩
end Go.Proofs.YtifomfimfdgjjaaGreatDoor
/-
  What codeOf answers: 0 of a nil error, the code of a wrongBytes. Nothing that was there turns.
  Conditions: the variable errors.errorType holds the handle of the type error.
-/
namespace Go.Proofs.YtifomfimfdgjjaaGreatDoor
open Go.RowKit Go.Extern.Stop Go.Stop Go.Extern

/-- The variable errors.errorType as the program's text lays it. -/
def Laid (w : World) : Prop := w.cell? ⟨1, 0, none⟩ = some (.iface 312 (.agg #[.pointer (some ⟨3, 275, none⟩)]))
theorem Laid.pos {w : World} (h : Laid w) : 1 < w.heap.size := World.block_lt_of_cell? w _ h
theorem Laid.below {w w' : World} (h : Laid w) (hb : Below w.heap.size w w') : Laid w' := by
  unfold Laid; rw [hb.cell (p := ⟨1, 0, none⟩) h.pos]; exact h

def errV (c : Int) : Value := .iface 281 (.agg #[.int .i64 c])

set_option maxHeartbeats 1000000 in
theorem codeOf_nil (w : World) :
    Calls Tryz.prog 232 #[.nilIface] w fun e w' => e = .returned (.int .i64 0) ∧ Below w.heap.size w w' := by
  go_enter Tryz.func232, Tryz.ntmps232
  go_wp2_with (go_at_call 240; refine (as_nil _ _).mono ?_; rintro e w' ⟨rfl, hw⟩; subst hw)
  go_ret
  exact ⟨rfl, (Below.refl _ _).alloc (Nat.le_refl _) _⟩

set_option maxHeartbeats 1000000 in
theorem codeOf_hit (c : Int) (w : World) (hg : Laid w) :
    Calls Tryz.prog 232 #[.iface 281 (.agg #[.int .i64 c])] w fun e w' => e = .returned (.int .i64 c) ∧ Below w.heap.size w w' := by
  have hlt := hg.pos
  have hgA : (w.alloc (.cells #[.int .i64 0] 281)).cell? ⟨1, 0, none⟩ = some (.iface 312 (.agg #[.pointer (some ⟨3, 275, none⟩)])) := by
    rw [World.cell?_alloc_lt _ _ ⟨1, 0, none⟩ hlt]; exact hg
  have htA : (w.alloc (.cells #[.int .i64 0] 281)).cell? ⟨w.heap.size, 0, none⟩ = some (.int .i64 0) := by simp
  have hfA : (w.alloc (.cells #[.int .i64 0] 281)).frozen? ⟨w.heap.size, 0, none⟩ = false := by simp
  have HA : Hid (Laid w) := hg
  clear hg
  go_enter Tryz.func232, Tryz.ntmps232
  go_wp2_with (go_at_call 240; refine (as_hit _ _ (.int .i64 0) _ hgA htA hfA).mono ?_; rintro e w' ⟨rfl, hw⟩; subst hw)
  go_ret
  exact ⟨rfl, by go_grown⟩
end Go.Proofs.YtifomfimfdgjjaaGreatDoor
/-
  A scope with several labels: what holds at each jump ('J l'), and a measure that every pass lowers. After the guide's law for one label (Derived/ScopeJumps).
-/
namespace Go.Proofs.YtifomfimfdgjjaaGreatDoor
open Go

/-- As Q; by a goto to label l: J l. -/
def jumps (J : Nat → Act → World → Prop) (Q : Exit → Act → World → Prop) : Exit → Act → World → Prop
  | .goto l, a, w => J l a w
  | e, a, w => Q e a w

theorem wp_scope_many {P : Program} {a : Act} {w : World} {Q : Exit → Act → World → Prop} {c : Code} (R : Nat → Code) (J : Nat → Act → World → Prop) (μ : Nat → Act → World → Nat)
    (hf : ∀ l a w, J l a w → findLabel c l = some (R l))
    (N : Nat) (first : c.wp P (jumps (fun l' a' w' => J l' a' w' ∧ μ l' a' w' < N) Q) a w)
    (pass : ∀ l a w, J l a w → (R l).wp P (jumps (fun l' a' w' => J l' a' w' ∧ μ l' a' w' < μ l a w) Q) a w) : (Code.scope c).wp P Q a w := by
  intro b k cs
  have hg : ∀ l a w, J l a w → gotoIn l (.inScope c :: k) = some (.code (R l) :: .inScope c :: k) := fun l a w h => by simp [gotoIn, hf l a w h]
  have key : ∀ n l a w, μ l a w = n → J l a w → ∃ e a' w', Q e a' w' ∧ Arrives P (lone (b.at a (.code (R l) :: .inScope c :: k)) cs w) b k cs e a' w' := by
    intro n
    induction n using Nat.strongRecOn with
    | _ n ih =>
      intro l a w hn hJ
      obtain ⟨e, a₁, w₁, hq, harr⟩ := pass l a w hJ b (.inScope c :: k) cs
      cases e with
      | normal => exact ⟨.normal, a₁, w₁, hq, Steps.trans harr (.one step_inScope)⟩
      | exit id => exact ⟨.exit id, a₁, w₁, hq, fun k' hk => harr k' (by simp [exitTo, hk])⟩
      | goto l' =>
        obtain ⟨hJ', hlt⟩ := hq
        obtain ⟨e₂, a₂, w₂, hq₂, harr₂⟩ := ih _ (by omega) l' a₁ w₁ rfl hJ'
        exact ⟨e₂, a₂, w₂, hq₂, .of_steps (harr _ (hg l' a₁ w₁ hJ')) harr₂⟩
      | ret => exact ⟨_, a₁, w₁, hq, harr⟩
      | panic ch => exact ⟨_, a₁, w₁, hq, harr⟩
      | outgrown => exact ⟨_, a₁, w₁, hq, harr⟩
  obtain ⟨e, a₁, w₁, hq, harr⟩ := first b (.inScope c :: k) cs
  cases e with
  | normal => exact ⟨.normal, a₁, w₁, hq, .head step_scope (Steps.trans harr (.one step_inScope))⟩
  | exit id => exact ⟨.exit id, a₁, w₁, hq, fun k' hk => .head step_scope (harr k' (by simp [exitTo, hk]))⟩
  | goto l' =>
    obtain ⟨e₂, a₂, w₂, hq₂, harr₂⟩ := key _ l' a₁ w₁ rfl hq.1
    exact ⟨e₂, a₂, w₂, hq₂, .of_steps (.head step_scope (harr _ (hg l' a₁ w₁ hq.1))) harr₂⟩
  | ret => exact ⟨_, a₁, w₁, hq, .of_steps (.one step_scope) harr⟩
  | panic ch => exact ⟨_, a₁, w₁, hq, .of_steps (.one step_scope) harr⟩
  | outgrown => exact ⟨_, a₁, w₁, hq, .of_steps (.one step_scope) harr⟩

/-- Three labels, 0, 1 and 2. -/
def three {α : Type} (x0 x1 x2 z : α) : Nat → α
  | 0 => x0
  | 1 => x1
  | 2 => x2
  | _ => z

theorem wp_scope_three {P : Program} {a : Act} {w : World} {Q : Exit → Act → World → Prop} {c r0 r1 r2 : Code} (J0 J1 J2 : Act → World → Prop) (μ : Nat → Act → World → Nat) (N : Nat)
    (h0 : findLabel c 0 = some r0) (h1 : findLabel c 1 = some r1) (h2 : findLabel c 2 = some r2)
    (first : c.wp P (jumps (fun l' a' w' => three J0 J1 J2 (fun _ _ => False) l' a' w' ∧ μ l' a' w' < N) Q) a w)
    (pass0 : ∀ a w, J0 a w → r0.wp P (jumps (fun l' a' w' => three J0 J1 J2 (fun _ _ => False) l' a' w' ∧ μ l' a' w' < μ 0 a w) Q) a w)
    (pass1 : ∀ a w, J1 a w → r1.wp P (jumps (fun l' a' w' => three J0 J1 J2 (fun _ _ => False) l' a' w' ∧ μ l' a' w' < μ 1 a w) Q) a w)
    (pass2 : ∀ a w, J2 a w → r2.wp P (jumps (fun l' a' w' => three J0 J1 J2 (fun _ _ => False) l' a' w' ∧ μ l' a' w' < μ 2 a w) Q) a w) : (Code.scope c).wp P Q a w := by
  refine wp_scope_many (three r0 r1 r2 .skip) (three J0 J1 J2 (fun _ _ => False)) μ ?_ N first ?_
  · intro l a w h
    match l, h with
    | 0, _ => exact h0
    | 1, _ => exact h1
    | 2, _ => exact h2
    | l + 3, h => exact False.elim h
  · intro l a w h
    match l, h with
    | 0, h => exact pass0 a w h
    | 1, h => exact pass1 a w h
    | 2, h => exact pass2 a w h
    | l + 3, h => exact False.elim h
end Go.Proofs.YtifomfimfdgjjaaGreatDoor
/-
  What readBits answers: what 'scan' finds from the place on; the world stands.
  Conditions: the text is at most 8000 bytes long; the place is from 0 to the greatest int64.
-/
namespace Go.Proofs.YtifomfimfdgjjaaGreatDoor
open Go.RowKit
set_option linter.unusedVariables false

def rbV (s : ByteArray) (a : Nat) : Value :=
  if (scanAt s a).1 = 0 then .tuple #[.int .u64 (scanAt s a).2.1, .int .i64 ((a : Int) + ((scanAt s a).2.2 : Int)), .nilIface]
  else .tuple #[.int .u64 0, .int .i64 0, .iface 281 (.agg #[.int .i64 (scanAt s a).1])]
theorem rbV_bad {s : ByteArray} {a : Nat} {c : Int} (h : c ≠ 0 ∧ scanAt s a = (c, 0, 0)) : rbV s a = .tuple #[.int .u64 0, .int .i64 0, .iface 281 (.agg #[.int .i64 c])] := by
  unfold rbV; rw [h.2, if_neg h.1]
theorem rbV_ok {s : ByteArray} {a k : Nat} {u : Int} (h : scanAt s a = (0, u, k)) : rbV s a = .tuple #[.int .u64 u, .int .i64 ((a : Int) + (k : Int)), .nilIface] := by
  unfold rbV; rw [h, if_pos rfl]
theorem ret_valB {a b : Value} (h : a = b) : Ending.returned a = .returned b := by rw [h]

def rbM (l : Nat) (a : Act) : Nat := if l = 1 then 2 + (10 - (intOf (a.tmps.getD 9 undef)).toNat) else if l = 2 then 1 else 0

def BitAt (s : ByteArray) (i k : Nat) (b : Int) : Prop := ∃ h : i < s.size, b = (s[i].toNat : Int) ∧ (b < 128 ∨ k = 9)

def rbJ0 (s : ByteArray) (a : Nat) (w : World) (a' : Act) (w' : World) : Prop :=
  w' = w ∧ ∃ (at' u b cnt cc : Int) (x11 x12 x13 x14 x15 x16 x17 x18 x19 x20 x21 x22 x23 x24 x25 x26 x27 x28 x29 x30 x31 x32 x33 x34 x35 x36 x37 x38 x39 x40 x41 x42 x43 x44 x45 x46 x47 x48 x49 x50 x51 x52 x53 x54 x55 x56 x57 x58 x59 x60 x61 x62 : Value), a' = { tmps := #[.string s, .int .i64 (at'), undef, undef, .int .u64 0, .int .i64 0, .nilIface, .int .u64 (u), .int .u8 (b), .int .u64 (cnt), .int .i64 (cc), x11, x12, x13, x14, x15, x16, x17, x18, x19, x20, x21, x22, x23, x24, x25, x26, x27, x28, x29, x30, x31, x32, x33, x34, x35, x36, x37, x38, x39, x40, x41, x42, x43, x44, x45, x46, x47, x48, x49, x50, x51, x52, x53, x54, x55, x56, x57, x58, x59, x60, x61, x62], defers := [] } ∧ Hid (cc ≠ 0 ∧ scanAt s a = (cc, 0, 0))
theorem rbJ0_mk {s : ByteArray} {a : Nat} {w : World} {at' u b cnt cc : Int} {x11 x12 x13 x14 x15 x16 x17 x18 x19 x20 x21 x22 x23 x24 x25 x26 x27 x28 x29 x30 x31 x32 x33 x34 x35 x36 x37 x38 x39 x40 x41 x42 x43 x44 x45 x46 x47 x48 x49 x50 x51 x52 x53 x54 x55 x56 x57 x58 x59 x60 x61 x62 : Value} (h : Hid (cc ≠ 0 ∧ scanAt s a = (cc, 0, 0))) : rbJ0 s a w { tmps := #[.string s, .int .i64 (at'), undef, undef, .int .u64 0, .int .i64 0, .nilIface, .int .u64 (u), .int .u8 (b), .int .u64 (cnt), .int .i64 (cc), x11, x12, x13, x14, x15, x16, x17, x18, x19, x20, x21, x22, x23, x24, x25, x26, x27, x28, x29, x30, x31, x32, x33, x34, x35, x36, x37, x38, x39, x40, x41, x42, x43, x44, x45, x46, x47, x48, x49, x50, x51, x52, x53, x54, x55, x56, x57, x58, x59, x60, x61, x62], defers := [] } w :=
  ⟨rfl, at', u, b, cnt, cc, x11, x12, x13, x14, x15, x16, x17, x18, x19, x20, x21, x22, x23, x24, x25, x26, x27, x28, x29, x30, x31, x32, x33, x34, x35, x36, x37, x38, x39, x40, x41, x42, x43, x44, x45, x46, x47, x48, x49, x50, x51, x52, x53, x54, x55, x56, x57, x58, x59, x60, x61, x62, rfl, h⟩
def rbJ1 (s : ByteArray) (a : Nat) (w : World) (a' : Act) (w' : World) : Prop :=
  w' = w ∧ ∃ (k : Nat) (u b : Int) (x11 x12 x13 x14 x15 x16 x17 x18 x19 x20 x21 x22 x23 x24 x25 x26 x27 x28 x29 x30 x31 x32 x33 x34 x35 x36 x37 x38 x39 x40 x41 x42 x43 x44 x45 x46 x47 x48 x49 x50 x51 x52 x53 x54 x55 x56 x57 x58 x59 x60 x61 x62 : Value), a' = { tmps := #[.string s, .int .i64 ((a : Int) + (k : Int)), undef, undef, .int .u64 0, .int .i64 0, .nilIface, .int .u64 (u), .int .u8 (b), .int .u64 ((k : Int)), .int .i64 (4), x11, x12, x13, x14, x15, x16, x17, x18, x19, x20, x21, x22, x23, x24, x25, x26, x27, x28, x29, x30, x31, x32, x33, x34, x35, x36, x37, x38, x39, x40, x41, x42, x43, x44, x45, x46, x47, x48, x49, x50, x51, x52, x53, x54, x55, x56, x57, x58, x59, x60, x61, x62], defers := [] } ∧ Hid (GetTo s a k u) ∧ k ≤ 9 ∧ 0 ≤ u ∧ (0 < k → a + k ≤ 8000)
theorem rbJ1_mk {s : ByteArray} {a : Nat} {w : World} {k : Nat} {at' u' cnt u b : Int} {x11 x12 x13 x14 x15 x16 x17 x18 x19 x20 x21 x22 x23 x24 x25 x26 x27 x28 x29 x30 x31 x32 x33 x34 x35 x36 x37 x38 x39 x40 x41 x42 x43 x44 x45 x46 x47 x48 x49 x50 x51 x52 x53 x54 x55 x56 x57 x58 x59 x60 x61 x62 : Value} (e1 : at' = (a : Int) + (k : Int)) (e2 : u' = u) (e3 : cnt = (k : Int)) (h : Hid (GetTo s a k u)) (h1 : k ≤ 9) (h2 : 0 ≤ u) (h3 : 0 < k → a + k ≤ 8000) : rbJ1 s a w { tmps := #[.string s, .int .i64 (at'), undef, undef, .int .u64 0, .int .i64 0, .nilIface, .int .u64 (u'), .int .u8 (b), .int .u64 (cnt), .int .i64 (4), x11, x12, x13, x14, x15, x16, x17, x18, x19, x20, x21, x22, x23, x24, x25, x26, x27, x28, x29, x30, x31, x32, x33, x34, x35, x36, x37, x38, x39, x40, x41, x42, x43, x44, x45, x46, x47, x48, x49, x50, x51, x52, x53, x54, x55, x56, x57, x58, x59, x60, x61, x62], defers := [] } w := by
  subst e1 e2 e3
  exact ⟨rfl, k, u', b, x11, x12, x13, x14, x15, x16, x17, x18, x19, x20, x21, x22, x23, x24, x25, x26, x27, x28, x29, x30, x31, x32, x33, x34, x35, x36, x37, x38, x39, x40, x41, x42, x43, x44, x45, x46, x47, x48, x49, x50, x51, x52, x53, x54, x55, x56, x57, x58, x59, x60, x61, x62, rfl, h, h1, h2, h3⟩
def rbJ2 (s : ByteArray) (a : Nat) (w : World) (a' : Act) (w' : World) : Prop :=
  w' = w ∧ ∃ (k : Nat) (u b : Int) (x11 x12 x13 x14 x15 x16 x17 x18 x19 x20 x21 x22 x23 x24 x25 x26 x27 x28 x29 x30 x31 x32 x33 x34 x35 x36 x37 x38 x39 x40 x41 x42 x43 x44 x45 x46 x47 x48 x49 x50 x51 x52 x53 x54 x55 x56 x57 x58 x59 x60 x61 x62 : Value), a' = { tmps := #[.string s, .int .i64 ((a : Int) + (k : Int) + 1), undef, undef, .int .u64 0, .int .i64 0, .nilIface, .int .u64 (u), .int .u8 (b), .int .u64 ((k : Int) + 1), .int .i64 (4), x11, x12, x13, x14, x15, x16, x17, x18, x19, x20, x21, x22, x23, x24, x25, x26, x27, x28, x29, x30, x31, x32, x33, x34, x35, x36, x37, x38, x39, x40, x41, x42, x43, x44, x45, x46, x47, x48, x49, x50, x51, x52, x53, x54, x55, x56, x57, x58, x59, x60, x61, x62], defers := [] } ∧ Hid (GetTo s a k u) ∧ k ≤ 9 ∧ 0 ≤ u ∧ a + k ≤ 8000 ∧ 0 ≤ b ∧ b ≤ 255 ∧ BitAt s (a + k) k b
theorem rbJ2_mk {s : ByteArray} {a : Nat} {w : World} {k : Nat} {at' cnt u b : Int} {x11 x12 x13 x14 x15 x16 x17 x18 x19 x20 x21 x22 x23 x24 x25 x26 x27 x28 x29 x30 x31 x32 x33 x34 x35 x36 x37 x38 x39 x40 x41 x42 x43 x44 x45 x46 x47 x48 x49 x50 x51 x52 x53 x54 x55 x56 x57 x58 x59 x60 x61 x62 : Value} (e1 : at' = (a : Int) + (k : Int) + 1) (e3 : cnt = (k : Int) + 1) (h : Hid (GetTo s a k u)) (h1 : k ≤ 9) (h2 : 0 ≤ u) (h3 : a + k ≤ 8000) (h4 : 0 ≤ b) (h5 : b ≤ 255) (h6 : BitAt s (a + k) k b) : rbJ2 s a w { tmps := #[.string s, .int .i64 (at'), undef, undef, .int .u64 0, .int .i64 0, .nilIface, .int .u64 (u), .int .u8 (b), .int .u64 (cnt), .int .i64 (4), x11, x12, x13, x14, x15, x16, x17, x18, x19, x20, x21, x22, x23, x24, x25, x26, x27, x28, x29, x30, x31, x32, x33, x34, x35, x36, x37, x38, x39, x40, x41, x42, x43, x44, x45, x46, x47, x48, x49, x50, x51, x52, x53, x54, x55, x56, x57, x58, x59, x60, x61, x62], defers := [] } w := by
  subst e1 e3
  exact ⟨rfl, k, u, b, x11, x12, x13, x14, x15, x16, x17, x18, x19, x20, x21, x22, x23, x24, x25, x26, x27, x28, x29, x30, x31, x32, x33, x34, x35, x36, x37, x38, x39, x40, x41, x42, x43, x44, x45, x46, x47, x48, x49, x50, x51, x52, x53, x54, x55, x56, x57, x58, x59, x60, x61, x62, rfl, h, h1, h2, h3, h4, h5, h6⟩

set_option maxRecDepth 20000 in
set_option maxHeartbeats 4000000 in
theorem readBits_any (s : ByteArray) (a : Nat) (w : World) (hs : s.size ≤ 8000) (h1 : (a : Int) ≤ 9223372036854775807) :
    Calls Tryz.prog 239 #[.string s, .int .i64 a] w fun e w' => e = .returned (rbV s a) ∧ w' = w := by
  go_enter Tryz.func239, Tryz.ntmps239
  go_wp2
  refine wp_scope_three (rbJ0 s a w) (rbJ1 s a w) (rbJ2 s a w) (fun l a' _ => rbM l a') 13 rfl rfl rfl ?_ ?_ ?_ ?_
  · have HT : Hid (GetTo s a 0 0) := getTo_start s a
    by_cases hl : s.size ≤ a
    · have H4 : Hid ((4 : Int) ≠ 0 ∧ scanAt s a = (4, 0, 0)) := ⟨by decide, getTo_short HT.out (by omega)⟩
      go_wp2
      go_step3
      go_wp2
      go_step3
      exact ⟨rbJ0_mk H4, by simp [rbM]⟩
    · have hin : a < s.size := by omega
      have hcb : (s[a].toNat : Int) ≤ 255 := by have := s[a].toNat_lt; omega
      by_cases hc : (s[a].toNat : Int) < 128
      · have HB : BitAt s (a + 0) 0 (s[a].toNat : Int) := ⟨hin, rfl, .inl hc⟩
        go_wp2
        go_step3
        go_wp2
        go_step3
        exact ⟨rbJ2_mk (k := 0) (by simp) (by simp) HT (by omega) (by omega) (by omega) (by omega) hcb HB, by simp [rbM]⟩
      · have HM : Hid (GetTo s a 1 (0 + ((s[a].toNat : Int) - 128) * 2 ^ (7 * 0))) := getTo_more HT.out hin (by omega) (show 128 ≤ (s[a].toNat : Int) by omega)
        have HE : Hid (bits .or .u64 0 (IntKind.u64.wrap (IntKind.u64.wrap (bits .and .u8 (s[a].toNat : Int) 127))) = 0 + ((s[a].toNat : Int) - 128) * 2 ^ (7 * 0)) := by
          show _ = _
          have e := impl_or (k := 0) (u := 0) (x := (s[a].toNat : Int) % 128) (by omega) (by omega) (by decide) (by omega) (by omega) (by omega)
          have e1 : (s[a].toNat : Int) % 128 * 2 ^ (7 * 0) = (s[a].toNat : Int) % 128 := by simp
          have e2 : ((s[a].toNat : Int) - 128) * 2 ^ (7 * 0) = (s[a].toNat : Int) - 128 := by simp
          rw [e1] at e
          rw [and127 _ (by omega) hcb, wrap_small ((s[a].toNat : Int) % 128) (by omega) (by omega), e, e2]
          omega
        go_wp2
        go_step3
        go_wp2
        go_step3
        exact ⟨rbJ1_mk (k := 1) (by go_num) HE.out (by go_num) HM (by omega) HM.out.2.1 (fun _ => by omega), by simp [rbM, intOf]⟩
  · rintro a' w' ⟨rfl, at', u, b, cnt, cc, x11, x12, x13, x14, x15, x16, x17, x18, x19, x20, x21, x22, x23, x24, x25, x26, x27, x28, x29, x30, x31, x32, x33, x34, x35, x36, x37, x38, x39, x40, x41, x42, x43, x44, x45, x46, x47, x48, x49, x50, x51, x52, x53, x54, x55, x56, x57, x58, x59, x60, x61, x62, rfl, HS⟩
    have HR : Hid (rbV s a = .tuple #[.int .u64 0, .int .i64 0, .iface 281 (.agg #[.int .i64 cc])]) := rbV_bad HS.out
    go_wp2
    simp only [jumps]
    go_ret3
    exact ⟨ret_valB HR.out.symm, rfl⟩
  · rintro a' w' ⟨rfl, k, u, b, x11, x12, x13, x14, x15, x16, x17, x18, x19, x20, x21, x22, x23, x24, x25, x26, x27, x28, x29, x30, x31, x32, x33, x34, x35, x36, x37, x38, x39, x40, x41, x42, x43, x44, x45, x46, x47, x48, x49, x50, x51, x52, x53, x54, x55, x56, x57, x58, x59, x60, x61, x62, rfl, HT, hk, hu0, hak⟩
    by_cases hl : s.size ≤ a + k
    · have H4 : Hid ((4 : Int) ≠ 0 ∧ scanAt s a = (4, 0, 0)) := ⟨by decide, getTo_short HT.out hl⟩
      go_wp2
      go_step3
      exact ⟨rbJ0_mk H4, by simp [rbM, intOf]; try omega⟩
    · have hin : a + k < s.size := by omega
      have hcb : (s[a + k].toNat : Int) ≤ 255 := by have := s[a + k].toNat_lt; omega
      by_cases hc : (s[a + k].toNat : Int) < 128
      · have HB : BitAt s (a + k) k (s[a + k].toNat : Int) := ⟨hin, rfl, .inl hc⟩
        go_wp2
        go_step3
        exact ⟨rbJ2_mk rfl rfl HT hk hu0 (by omega) (by omega) hcb HB, by simp [rbM, intOf]; try omega⟩
      · cases k9 : ((k : Int) + 1 == 10)
        · have hk8 : k ≤ 8 := by simp at k9; omega
          have HM : Hid (GetTo s a (k + 1) (u + ((s[a + k].toNat : Int) - 128) * 2 ^ (7 * k))) := getTo_more HT.out hin hk8 (by omega)
          have HE : Hid (bits .or .u64 u (IntKind.u64.wrap (IntKind.u64.wrap (bits .and .u8 (s[a + k].toNat : Int) 127) * 2 ^ (7 * k))) = u + ((s[a + k].toNat : Int) - 128) * 2 ^ (7 * k)) := by
            show _ = _
            rw [and127 _ (by omega) hcb, wrap_small ((s[a + k].toNat : Int) % 128) (by omega) (by omega), impl_or hk hu0 HT.out.2.2.1 (by omega) (by omega) (by omega), show (s[a + k].toNat : Int) % 128 = (s[a + k].toNat : Int) - 128 by omega]
          go_wp2
          go_step3
          exact ⟨rbJ1_mk (by go_num) HE.out (by go_num) HM (by omega) HM.out.2.1 (fun _ => by omega), by simp [rbM, intOf]; omega⟩
        · have HB : BitAt s (a + k) k (s[a + k].toNat : Int) := ⟨hin, rfl, .inr (by simp at k9; omega)⟩
          go_wp2
          go_step3
          exact ⟨rbJ2_mk rfl rfl HT hk hu0 (by omega) (by omega) hcb HB, by simp [rbM, intOf]; try omega⟩
  · rintro a' w' ⟨rfl, k, u, b, x11, x12, x13, x14, x15, x16, x17, x18, x19, x20, x21, x22, x23, x24, x25, x26, x27, x28, x29, x30, x31, x32, x33, x34, x35, x36, x37, x38, x39, x40, x41, x42, x43, x44, x45, x46, x47, x48, x49, x50, x51, x52, x53, x54, x55, x56, x57, x58, x59, x60, x61, x62, rfl, HT, hk, hu0, hak, hb0, hb1, HB⟩
    obtain ⟨hin, hbe, hbk⟩ := HB
    have HBE : Hid (b = (s[a + k].toNat : Int)) := hbe
    clear hbe
    by_cases hbig : k = 9 ∧ 1 < b
    · have H3 : Hid ((3 : Int) ≠ 0 ∧ scanAt s a = (3, 0, 0)) := ⟨by decide, getTo_big HT.out hin hbig.1 (by rw [← HBE.out]; exact hbig.2)⟩
      have k9 : ((k : Int) + 1 == 10) = true := by simp; omega
      have hb2 : 1 < b := hbig.2
      clear hbig hbk
      go_wp2
      go_step3
      exact ⟨rbJ0_mk H3, by simp [rbM]⟩
    have h9 : k = 9 → b ≤ 1 := fun e => by omega
    have h128 : b < 128 := by omega
    have H9 : Hid (k = 9 → b ≤ 1) := h9
    have k9i : ((k : Int) + 1 == 10) = true → b ≤ 1 := fun e => h9 (by simp at e; omega)
    have K9 : Hid (((k : Int) + 1 == 10) = true → b ≤ 1) := k9i
    clear hbig hbk h9 k9i
    by_cases hz : b = 0 ∧ 0 < k
    · have H3 : Hid ((3 : Int) ≠ 0 ∧ scanAt s a = (3, 0, 0)) := ⟨by decide, getTo_zero HT.out hin (by rw [← HBE.out]; exact hz.1) hz.2⟩
      have b0 : (b == 0) = true := by simp; omega
      have hb2 : b ≤ 0 := by omega
      have hkp : 0 < k := hz.2
      clear hz
      cases k9 : ((k : Int) + 1 == 10)
      · go_wp2
        go_step3
        exact ⟨rbJ0_mk H3, by simp [rbM]⟩
      · go_wp2
        go_step3
        exact ⟨rbJ0_mk H3, by simp [rbM]⟩
    · have hsc := getTo_ok HT.out hin (by rw [← HBE.out]; exact h128) (fun e => by rw [← HBE.out]; exact H9.out e) (fun hp hc0 => hz ⟨by rw [HBE.out]; exact hc0, hp⟩)
      have HO : Hid (bits .or .u64 u (IntKind.u64.wrap (b * 2 ^ (7 * k))) = u + b * 2 ^ (7 * k)) := impl_or hk hu0 HT.out.2.2.1 hb0 (by omega) H9.out
      have HR : Hid (rbV s a = .tuple #[.int .u64 (bits .or .u64 u (IntKind.u64.wrap (b * 2 ^ (7 * k)))), .int .i64 ((a : Int) + (k : Int) + 1), .nilIface]) := by
        show _ = _
        rw [rbV_ok hsc, ← HBE.out, HO.out]
        rfl
      have Hz : Hid ((b == 0) = true → (k : Int) ≤ 0) := fun e => by simp at e; omega
      clear hz hsc
      cases k9 : ((k : Int) + 1 == 10)
      · cases b0 : (b == 0)
        · go_wp2
          all_goals simp only [jumps]
          all_goals go_ret3
          all_goals exact ⟨ret_valB HR.out.symm, rfl⟩
        · have hk0 := Hz.out b0
          go_wp2
          all_goals simp only [jumps]
          all_goals go_ret3
          all_goals exact ⟨ret_valB HR.out.symm, rfl⟩
      · have hb2 := K9.out k9
        cases b0 : (b == 0)
        · go_wp2
          all_goals simp only [jumps]
          all_goals go_ret3
          all_goals exact ⟨ret_valB HR.out.symm, rfl⟩
        · have hk0 := Hz.out b0
          exfalso
          simp at k9; omega
end Go.Proofs.YtifomfimfdgjjaaGreatDoor
