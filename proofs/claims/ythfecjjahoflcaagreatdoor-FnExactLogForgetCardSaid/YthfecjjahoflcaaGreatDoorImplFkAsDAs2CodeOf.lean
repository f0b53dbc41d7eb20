/-
  Parts of one proof, laid as one text: ImplFk, AsD, As2, CodeOf; what each says stands at its head.
-/
import Derived.Test.YthfecjjahoflcaaGreatDoorRows
import Derived.Test.YthfecjjahoflcaaGreatDoorBytesDigMathTreeMath
import Derived.Test.YthfecjjahoflcaaGreatDoorSlASlBBxKOwnSTakesLTillTwo
import Derived.Test.YthfecjjahoflcaaGreatDoorFldLGrKSpecGNSpecGTFldN
import Derived.Test.YthfecjjahoflcaaGreatDoorJoinedPutTextFldMathFldGShwK
import Derived.Test.YthfecjjahoflcaaGreatDoorOneKFldBlkFldRiseScanMathGetValGetTxtNumMathFldRdNumFromTmbMath
import Derived.Test.YthfecjjahoflcaaGreatDoorPadIDigIDigAllTimeIImplFC
import Derived.Test.YthfecjjahoflcaaGreatDoorImplFR
import Derived.Test.YthfecjjahoflcaaGreatDoorImplFTImplOn
import Derived.Handy
import Derived.WalkSpells
import Derived.OwnWalk
import Derived.WalkKit
import Derived.LaidEql
import Derived.Stop.Asserts
import Derived.RowKitTokens
/-
  What the program's RowLeaf and fieldCode answer.
  Conditions: the cells of Fields hold the fields; the two tables of the digest lie as laid.
-/
namespace Go.Proofs.YthfecjjahoflcaaGreatDoor
open Go.RowKit Go.Lib
set_option linter.unusedVariables false
set_option maxRecDepth 20000

set_option maxHeartbeats 1000000 in
theorem implRowLeaf_any (k : ByteArray) (at_ : Int) (q : Option Addr) (c : Nat) (fs : List Fld) (w : World) (hT : Tabs w) (hf : FldAt w q fs) (hn : fs.length ≤ 1048576) (hc : fs.length ≤ c) (hk : k.size ≤ maxLen) (hz : FldsLe fs) :
    Calls Tryz.prog 38 #[.agg #[.string k, .int .i64 at_, .slice q fs.length c]] w fun e w' => e = .returned (.string (lfB k at_ fs)) ∧ Below w.heap.size w w' := by
  obtain ⟨W2, hW2⟩ : ∃ W2, W2 = (w.alloc (.cells #[.string k, .int .i64 at_, .slice q fs.length c] 40)).alloc (.cells #[.string k, .int .i64 at_, .slice q fs.length c, .int .u32 0, .int .i32 0, .int .u32 0, .string ⟨#[]⟩] 110) := ⟨_, rfl⟩
  have HW2 : Hid (W2 = (w.alloc (.cells #[.string k, .int .i64 at_, .slice q fs.length c] 40)).alloc (.cells #[.string k, .int .i64 at_, .slice q fs.length c, .int .u32 0, .int .i32 0, .int .u32 0, .string ⟨#[]⟩] 110)) := hW2
  have hs1 : (w.alloc (.cells #[.string k, .int .i64 at_, .slice q fs.length c] 40)).heap.size = w.heap.size + 1 := by simp
  have B2 : Hid (Below w.heap.size w W2) := by rw [hW2]; exact ((Below.refl _ _).alloc (Nat.le_refl _) _).alloc (by rw [hs1]; omega) _
  have KR : RawB W2 (w.heap.size + 1) k at_ (.slice q fs.length c) 0 0 ByteArray.empty := by rw [hW2, ← hs1]; exact Bxs.new _ _ _
  have hL := leaf_any (w.heap.size + 1) k at_ q c fs W2 (hT.to B2.out) KR (hf.below B2.out) hn hc hk hz
  clear hW2 hs1 KR hf hT hz hk
  generalize lfB k at_ fs = R at *
  go_enter Tryz.func38, Tryz.ntmps38
  go_wp2_with fail
  rw [← HW2.out]
  refine hL.mono ?_
  rintro e y ⟨rfl, -, hg⟩
  have HE : Hid (Below w.heap.size w y) := below_turned B2.out hg B2.out.size (by omega)
  clear hg
  go_wp2_with fail
  go_ret
  exact ⟨rfl, HE.out⟩
def fldE : Fld := ⟨ByteArray.empty, ByteArray.empty, ByteArray.empty, ByteArray.empty, false⟩
def fcC (k : ByteArray) (at_ : Int) (fs : List Fld) (i ig : Int) : Int := if rwB k at_ fs = true then (if 0 ≤ i ∧ i ≤ (fs.length : Int) - 1 then (if (fs.getD i.toNat fldE).g = true then ig else 0) else 6) else 1
set_option maxHeartbeats 1000000 in
theorem fieldCode_any (k : ByteArray) (at_ : Int) (q : Option Addr) (c : Nat) (fs : List Fld) (ix ig : Int) (w : World) (hT : Tabs w) (hf : FldAt w q fs) (hn : fs.length ≤ 1048576) (hc : fs.length ≤ c) (hk : k.size ≤ maxLen) (hz : FldsLe fs) :
    Calls Tryz.prog 77 #[.agg #[.string k, .int .i64 at_, .slice q fs.length c], .int .i64 ix, .int .i64 ig] w fun e w' => e = .returned (.int .i64 (fcC k at_ fs ix ig)) ∧ Below w.heap.size w w' := by
  obtain ⟨W1, hW1⟩ : ∃ W1, W1 = w.alloc (.cells #[.string k, .int .i64 at_, .slice q fs.length c] 40) := ⟨_, rfl⟩
  have HW1 : Hid (W1 = w.alloc (.cells #[.string k, .int .i64 at_, .slice q fs.length c] 40)) := hW1
  have B1 : Hid (Below w.heap.size w W1) := by rw [hW1]; exact (Below.refl _ _).alloc (Nat.le_refl _) _
  have K1 : Hid (Bxs W1 w.heap.size 40 #[.string k, .int .i64 at_, .slice q fs.length c]) := by rw [hW1]; exact Bxs.new _ _ _
  have HT : Hid (FldAt W1 q fs) := hf.below B1.out
  have hR := implRowRight_any k at_ q c fs W1 (hT.to B1.out) HT.out hn hc hk hz
  have HX : Hid (∀ x, Below W1.heap.size W1 x → x.cell? ⟨w.heap.size, 0, none⟩ = some (.string k) ∧ x.cell? ⟨w.heap.size, 1, none⟩ = some (.int .i64 at_) ∧ x.cell? ⟨w.heap.size, 2, none⟩ = some (.slice q fs.length c)) := fun x hb => ⟨(K1.out.below hb).cell 0, (K1.out.below hb).cell 1, (K1.out.below hb).cell 2⟩
  obtain ⟨t0, t1, t2⟩ := HX.out W1 (Below.refl _ _)
  rw [HW1.out] at t0 t1 t2
  clear hW1 hf hT hz
  cases hr : rwB k at_ fs with
  | false =>
    have HV : Hid (fcC k at_ fs ix ig = 1) := if_neg (by rw [hr]; exact Bool.false_ne_true)
    rw [hr] at hR
    rw [HV.out]
    clear hr
    go_enter Tryz.func77, Tryz.ntmps77
    go_wp2_with fail
    rw [← HW1.out]
    refine hR.mono ?_
    rintro e y ⟨rfl, b1⟩
    have b2 := chainB B1.out b1
    go_wp2_with fail
    go_ret
    exact ⟨rfl, b2⟩
  | true =>
  rw [hr] at hR
  by_cases h0 : ix < 0
  · have HV : Hid (fcC k at_ fs ix ig = 6) := by show _ = _; unfold fcC; rw [if_pos hr, if_neg (by omega)]
    have d0 : decide (ix < 0) = true := decide_eq_true h0
    rw [HV.out]
    clear hr h0
    go_enter Tryz.func77, Tryz.ntmps77
    go_wp2_with fail
    rw [← HW1.out]
    refine hR.mono ?_
    rintro e y ⟨rfl, b1⟩
    have b2 := chainB B1.out b1
    go_wp2_with fail
    go_ret
    exact ⟨rfl, b2⟩
  have d0 : decide (ix < 0) = false := decide_eq_false h0
  obtain ⟨I, rfl⟩ := Int.eq_ofNat_of_zero_le (show 0 ≤ ix by omega)
  by_cases h1 : fs.length ≤ I
  · have HV : Hid (fcC k at_ fs I ig = 6) := by show _ = _; unfold fcC; rw [if_pos hr, if_neg (by omega)]
    have d1 : decide ((fs.length : Int) ≤ (I : Int)) = true := decide_eq_true (by omega)
    have d2 : decide (fs.length ≤ I) = true := decide_eq_true h1
    rw [HV.out]
    clear hr h0 h1
    go_enter Tryz.func77, Tryz.ntmps77
    go_wp2_with fail
    rw [← HW1.out]
    refine hR.mono ?_
    rintro e y ⟨rfl, b1⟩
    have b2 := chainB B1.out b1
    clear t0 t1 t2
    obtain ⟨t0, t1, t2⟩ := HX.out y b1
    go_wp2_with fail
    go_ret
    exact ⟨rfl, b2⟩
  have d1 : decide ((fs.length : Int) ≤ (I : Int)) = false := decide_eq_false (by omega)
  have d2 : decide (fs.length ≤ I) = false := decide_eq_false h1
  have hIl : I < fs.length := by omega
  have i1 : (I : Int) < fs.length := by omega
  obtain ⟨b, off, rfl, hb0⟩ := HT.out.some_of (by omega)
  have HV : Hid (fcC k at_ fs I ig = if fs[I].g = true then ig else 0) := by show _ = _; unfold fcC; rw [if_pos hr, if_pos (by omega), Int.toNat_natCast, List.getD_eq_getElem?_getD, List.getElem?_eq_getElem hIl]; rfl
  have HC : Hid (∀ x, Below W1.heap.size W1 x → x.cell? ⟨b, off + I * 5 + 4, none⟩ = some (.bool fs[I].g)) := fun x hx => ((HT.out.below hx).at I hIl).2.2.2.2
  rw [HV.out]
  clear HV hr h0 h1
  cases hg : fs[I].g with
  | true =>
    rw [hg] at HC
    rw [if_pos rfl]
    clear hg
    go_enter Tryz.func77, Tryz.ntmps77
    go_wp2_with fail
    rw [← HW1.out]
    refine hR.mono ?_
    rintro e y ⟨rfl, b1⟩
    have b2 := chainB B1.out b1
    clear t0 t1 t2
    obtain ⟨t0, t1, t2⟩ := HX.out y b1
    have c4 := HC.out y b1
    go_wp2_with fail
    go_ret
    exact ⟨rfl, b2⟩
  | false =>
    rw [hg] at HC
    rw [if_neg (by exact Bool.false_ne_true)]
    clear hg
    go_enter Tryz.func77, Tryz.ntmps77
    go_wp2_with fail
    rw [← HW1.out]
    refine hR.mono ?_
    rintro e y ⟨rfl, b1⟩
    have b2 := chainB B1.out b1
    clear t0 t1 t2
    obtain ⟨t0, t1, t2⟩ := HX.out y b1
    have c4 := HC.out y b1
    go_wp2_with fail
    go_ret
    exact ⟨rfl, b2⟩
theorem fcC_zero {k : ByteArray} {at_ : Int} {fs : List Fld} {i ig : Int} (hig : ig ≠ 0) (h : fcC k at_ fs i ig = 0) : rwB k at_ fs = true ∧ (0 ≤ i ∧ i ≤ (fs.length : Int) - 1) ∧ (fs.getD i.toNat fldE).g = false := by
  unfold fcC at h
  by_cases h1 : rwB k at_ fs = true
  · rw [if_pos h1] at h
    by_cases h2 : 0 ≤ i ∧ i ≤ (fs.length : Int) - 1
    · rw [if_pos h2] at h
      cases hg : (fs.getD i.toNat fldE).g with
      | true => rw [hg, if_pos rfl] at h; exact absurd h hig
      | false => exact ⟨h1, h2, rfl⟩
    · rw [if_neg h2] at h; cases h
  · rw [if_neg h1] at h; cases h
end Go.Proofs.YthfecjjahoflcaaGreatDoor
/-
  errors.As at the target *wrongBytes, by its contracts: a nil error: false, nothing turns; an error that is a wrongBytes: true, and the target holds it; nothing else that was there turns. After the guide's worked example of errors.As.
  Conditions: the variable errors.errorType holds the handle of the type error; the target's cell is there and may be written.
-/
namespace Go.Proofs.YthfecjjahoflcaaGreatDoor
open Go.RowKit Go.Extern.Stop Go.Stop Go.Extern

theorem as_nil (t : Value) (w : World) :
    Calls Tryz.prog 156 #[.nilIface, t] w fun e w' => e = .returned (.bool false) ∧ w' = w := by
  go_enter Tryz.func156, Tryz.ntmps156
  go_wp2
  go_ret
  exact ⟨rfl, rfl⟩

theorem valueOfP (t : Addr) (w : World) : (ReflectliteValue.unpack (.iface 195 (.pointer (some t)))).run Tryz.prog w
    = .ok (.agg #[.pointer (some ⟨3, 195, none⟩), .pointer (some ⟨w.heap.size, 0, none⟩), .int .u64 150]) (w.alloc (.cells #[.pointer (some t)] 195)) := by kernel_rfl
theorem typeP (a : Addr) (w : World) : (ReflectliteValue.methodAny (ReflectliteValue.valueError "reflectlite.Value.Type" 0) (fun t _ _ _ => ReflectliteType.toType t) #[.agg #[.pointer (some ⟨3, 195, none⟩), .pointer (some a), .int .u64 150]]).run Tryz.prog w
    = .ok (.iface 208 (.agg #[.pointer (some ⟨3, 195, none⟩)])) w := by kernel_rfl
theorem kindP (w : World) : ((ReflectliteType.abiMethod fun t => (fun a : Nat => Value.int IntKind.u8 (a : Int)) <$> Rtype.kind t) #[.pointer (some ⟨3, 195, none⟩)]).run Tryz.prog w = .ok (.int .u8 22) w := by kernel_rfl
theorem kindE (w : World) : ((ReflectliteType.abiMethod fun t => (fun a : Nat => Value.int IntKind.u8 (a : Int)) <$> Rtype.kind t) #[.pointer (some ⟨3, 191, none⟩)]).run Tryz.prog w = .ok (.int .u8 25) w := by kernel_rfl
theorem partsP (a : Addr) (w : World) : (ReflectliteValue.parts (.agg #[.pointer (some ⟨3, 195, none⟩), .pointer (some a), .int .u64 150])).run Tryz.prog w = .ok (some (195, a, 150)) w := by kernel_rfl
theorem isNilP (a p : Addr) (W : World) (ha : W.cell? a = some (.pointer (some p))) :
    (ReflectliteValue.method (ReflectliteValue.valueError "reflectlite.Value.IsNil" 0) ReflectliteValue.isNil #[.agg #[.pointer (some ⟨3, 195, none⟩), .pointer (some a), .int .u64 150]]).run Tryz.prog W = .ok (.bool false) W := by
  show (Sem.run Tryz.prog (ReflectliteValue.parts (.agg #[.pointer (some ⟨3, 195, none⟩), .pointer (some a), .int .u64 150]) >>= _) W) = _
  simp only [Sem.run_bind, partsP, Result.andThen]
  simp [ReflectliteValue.isNil, loadVar, isAgg, underlying, Tryz.underlying195, ha, Result.andThen]
theorem elemTP (w : World) : (ReflectliteType.method ReflectliteType.elem #[.agg #[.pointer (some ⟨3, 195, none⟩)]]).run Tryz.prog w = .ok (.iface 208 (.agg #[.pointer (some ⟨3, 191, none⟩)])) w := by kernel_rfl
theorem implementsE (w : World) : (ReflectliteType.relation "Implements" ReflectliteType.implements_ #[.agg #[.pointer (some ⟨3, 191, none⟩)], .iface 208 (.agg #[.pointer (some ⟨3, 183, none⟩)])]).run Tryz.prog w = .ok (.bool true) w := by kernel_rfl
theorem typeOfE (v : Value) (w : World) : (ReflectliteType.typeOf #[.iface 191 v]).run Tryz.prog w = .ok (.iface 208 (.agg #[.pointer (some ⟨3, 191, none⟩)])) w := by kernel_rfl
theorem assignableE (w : World) : (ReflectliteType.relation "AssignableTo" ReflectliteType.assignableTo #[.agg #[.pointer (some ⟨3, 191, none⟩)], .iface 208 (.agg #[.pointer (some ⟨3, 191, none⟩)])]).run Tryz.prog w = .ok (.bool true) w := by kernel_rfl
theorem valueOfE (c : Int) (w : World) : (ReflectliteValue.unpack (.iface 191 (.agg #[.int .i64 c]))).run Tryz.prog w
    = .ok (.agg #[.pointer (some ⟨3, 191, none⟩), .pointer (some ⟨w.heap.size, 0, none⟩), .int .u64 153]) (w.alloc (.cells #[.int .i64 c] 191)) := by kernel_rfl
theorem elemOfP (w : World) : (Rtype.elem? 195).run Tryz.prog w = .ok (some 191) w := by kernel_rfl
theorem mkE (p : Addr) (w : World) : (ReflectliteValue.mk 191 p ReflectliteValue.flagAddr).run Tryz.prog w = .ok (.agg #[.pointer (some ⟨3, 191, none⟩), .pointer (some p), .int .u64 409]) w := by kernel_rfl
theorem elemVP (a p : Addr) (W : World) (ha : W.cell? a = some (.pointer (some p))) :
    (ReflectliteValue.method (ReflectliteValue.valueError "reflectlite.Value.Elem" 0) ReflectliteValue.elem #[.agg #[.pointer (some ⟨3, 195, none⟩), .pointer (some a), .int .u64 150]]).run Tryz.prog W
      = .ok (.agg #[.pointer (some ⟨3, 191, none⟩), .pointer (some p), .int .u64 409]) W := by
  show (Sem.run Tryz.prog (ReflectliteValue.parts (.agg #[.pointer (some ⟨3, 195, none⟩), .pointer (some a), .int .u64 150]) >>= _) W) = _
  simp only [Sem.run_bind, partsP, Result.andThen]
  simp [ReflectliteValue.elem, loadVar, isAgg, underlying, Tryz.underlying195, ha, Result.andThen, elemOfP, mkE]

theorem partsEa (a : Addr) (w : World) : (ReflectliteValue.parts (.agg #[.pointer (some ⟨3, 191, none⟩), .pointer (some a), .int .u64 409])).run Tryz.prog w = .ok (some (191, a, 409)) w := by kernel_rfl
theorem partsE (a : Addr) (w : World) : (ReflectliteValue.parts (.agg #[.pointer (some ⟨3, 191, none⟩), .pointer (some a), .int .u64 153])).run Tryz.prog w = .ok (some (191, a, 153)) w := by kernel_rfl
theorem directE (w : World) : (Rtype.directlyAssignable 191 191).run Tryz.prog w = .ok true w := by kernel_rfl
theorem sizeE (w : World) : (sizeOf 191).run Tryz.prog w = .ok 1 w := by kernel_rfl
theorem isAggE (w : World) : (isAgg 191).run Tryz.prog w = .ok true w := by kernel_rfl
theorem setE (b1 b2 : Nat) (c : Int) (old : Value) (W : World) (hb : W.cell? ⟨b2, 0, none⟩ = some (.int .i64 c)) (ht : W.cell? ⟨b1, 0, none⟩ = some old) (hf : W.frozen? ⟨b1, 0, none⟩ = false) :
    (ReflectliteValue.set #[.agg #[.pointer (some ⟨3, 191, none⟩), .pointer (some ⟨b1, 0, none⟩), .int .u64 409], .agg #[.pointer (some ⟨3, 191, none⟩), .pointer (some ⟨b2, 0, none⟩), .int .u64 153]]).run Tryz.prog W
      = .ok (.tuple #[]) (W.setCell ⟨b1, 0, none⟩ (.int .i64 c)) := by
  show (Sem.run Tryz.prog (ReflectliteValue.parts (.agg #[.pointer (some ⟨3, 191, none⟩), .pointer (some ⟨b1, 0, none⟩), .int .u64 409]) >>= fun x => ReflectliteValue.parts (.agg #[.pointer (some ⟨3, 191, none⟩), .pointer (some ⟨b2, 0, none⟩), .int .u64 153]) >>= _) W) = _
  simp only [Sem.run_bind, partsEa, partsE, Result.andThen]
  simp [ReflectliteValue.flagAddr, loadVar, Result.andThen, directE, storeVar, Value.cells, storeCells, Addr.add]
  have hl : (loadCells ⟨b2, 0, none⟩ 1).run Tryz.prog W = .ok #[.int .i64 c] W := by
    have := run_loadCells (P := Tryz.prog) W ⟨b2, 0, none⟩ 1 (fun _ => .int .i64 c) (fun j hj => by
      obtain rfl : j = 0 := by omega
      simpa [Addr.add] using hb)
    simpa using this
  rw [hl]
  simp [storeCells, Addr.add]
  rw [run_store Tryz.prog W ⟨b1, 0, none⟩ _ _ (by rfl)]
  simp [ht, hf]
end Go.Proofs.YthfecjjahoflcaaGreatDoor
/-
  errors.As at the target *wrongBytes, and what codeOf answers. After the guide's worked example of errors.As.
  Conditions: the variable errors.errorType holds the handle of the type error; the target's cell is there and may be written.
-/
namespace Go.Proofs.YthfecjjahoflcaaGreatDoor
open Go.RowKit Go.Extern.Stop Go.Stop Go.Extern

def etv : Value := .iface 208 (.agg #[.pointer (some ⟨3, 183, none⟩)])

set_option maxHeartbeats 4000000 in
theorem as_hit (c : Int) (tb : Nat) (old : Value) (w : World) (hg : w.cell? ⟨2, 0, none⟩ = some (.iface 208 (.agg #[.pointer (some ⟨3, 183, none⟩)]))) (ht0 : w.cell? ⟨tb, 0, none⟩ = some old) (hf0 : w.frozen? ⟨tb, 0, none⟩ = false) :
    Calls Tryz.prog 156 #[.iface 191 (.agg #[.int .i64 c]), .iface 195 (.pointer (some ⟨tb, 0, none⟩))] w fun ev w' => ev = .returned (.bool true) ∧ w' = ((((w.alloc (.cells #[.pointer (some ⟨tb, 0, none⟩)] 195)).alloc (.cells #[.pointer (some ⟨3, 195, none⟩), .pointer (some ⟨w.heap.size, 0, none⟩), .int .u64 150] 198)).alloc (.cells #[.pointer (some ⟨3, 195, none⟩), .pointer (some ⟨w.heap.size, 0, none⟩), .int .u64 150] 198)).alloc (.cells #[.int .i64 c] 191)).setCell ⟨tb, 0, none⟩ (.int .i64 c) := by
  have h6 := @run_callFunc_extern Tryz.prog 157 _ (fun args => ReflectliteValue.unpack (args.getD 0 (.tuple #[]))) Tryz.func157 (by kernel_rfl) (by kernel_rfl) (by kernel_rfl) (by kernel_rfl)
  have h7 := @run_callFunc_extern Tryz.prog 158 _ (ReflectliteValue.methodAny (ReflectliteValue.valueError "reflectlite.Value.Type" 0) (fun t _ _ _ => ReflectliteType.toType t)) Tryz.func158 (by kernel_rfl) (by kernel_rfl) (by kernel_rfl) (by kernel_rfl)
  have h8 := @run_callFunc_extern Tryz.prog 159 _ (ReflectliteValue.method (ReflectliteValue.valueError "reflectlite.Value.IsNil" 0) ReflectliteValue.isNil) Tryz.func159 (by kernel_rfl) (by kernel_rfl) (by kernel_rfl) (by kernel_rfl)
  have h27 := @run_callFunc_extern Tryz.prog 178 _ (ReflectliteType.abiMethod fun t => do pure (.int .u8 (← Rtype.kind t))) Tryz.func178 (by kernel_rfl) (by kernel_rfl) (by kernel_rfl) (by kernel_rfl)
  have h37 := @run_callFunc_extern Tryz.prog 189 _ (ReflectliteType.method ReflectliteType.elem) Tryz.func189 (by kernel_rfl) (by kernel_rfl) (by kernel_rfl) (by kernel_rfl)
  have h38 := @run_callFunc_extern Tryz.prog 190 _ (ReflectliteType.relation "Implements" ReflectliteType.implements_) Tryz.func190 (by kernel_rfl) (by kernel_rfl) (by kernel_rfl) (by kernel_rfl)
  have h10 := @run_callFunc_extern Tryz.prog 161 _ ReflectliteType.typeOf Tryz.func161 (by kernel_rfl) (by kernel_rfl) (by kernel_rfl) (by kernel_rfl)
  have h35 := @run_callFunc_extern Tryz.prog 187 _ (ReflectliteType.relation "AssignableTo" ReflectliteType.assignableTo) Tryz.func187 (by kernel_rfl) (by kernel_rfl) (by kernel_rfl) (by kernel_rfl)
  have h11 := @run_callFunc_extern Tryz.prog 162 _ (ReflectliteValue.method (ReflectliteValue.valueError "reflectlite.Value.Elem" 0) ReflectliteValue.elem) Tryz.func162 (by kernel_rfl) (by kernel_rfl) (by kernel_rfl) (by kernel_rfl)
  have h12 := @run_callFunc_extern Tryz.prog 163 _ ReflectliteValue.set Tryz.func163 (by kernel_rfl) (by kernel_rfl) (by kernel_rfl) (by kernel_rfl)
  have tO := typeOfE
  have aE := assignableE
  have vE := valueOfE
  have f6 := valueOfP
  have f7 := typeP
  have kP := kindP
  have kE := kindE
  have eP := elemTP
  have iE := implementsE
  have n8 := isNilP ⟨w.heap.size, 0, none⟩ ⟨tb, 0, none⟩ ((w.alloc (.cells #[.pointer (some ⟨tb, 0, none⟩)] 195)).alloc (.cells #[.pointer (some ⟨3, 195, none⟩), .pointer (some ⟨w.heap.size, 0, none⟩), .int .u64 150] 198)) (by simp)
  have hlt : 2 < w.heap.size := World.block_lt_of_cell? w _ hg
  have hg2 : ((w.alloc (.cells #[.pointer (some ⟨tb, 0, none⟩)] 195)).alloc (.cells #[.pointer (some ⟨3, 195, none⟩), .pointer (some ⟨w.heap.size, 0, none⟩), .int .u64 150] 198)).cell? ⟨2, 0, none⟩ = some (.iface 208 (.agg #[.pointer (some ⟨3, 183, none⟩)])) := by
    rw [World.cell?_alloc_lt _ _ ⟨2, 0, none⟩ (by simp <;> omega), World.cell?_alloc_lt _ _ ⟨2, 0, none⟩ hlt]; exact hg
  have htl : tb < w.heap.size := by
    rcases Nat.lt_or_ge tb w.heap.size with h | h
    · exact h
    · simp [World.cell?, Array.getElem?_eq_none h] at ht0
  have el := elemVP ⟨w.heap.size, 0, none⟩ ⟨tb, 0, none⟩ (((w.alloc (.cells #[.pointer (some ⟨tb, 0, none⟩)] 195)).alloc (.cells #[.pointer (some ⟨3, 195, none⟩), .pointer (some ⟨w.heap.size, 0, none⟩), .int .u64 150] 198)).alloc (.cells #[.pointer (some ⟨3, 195, none⟩), .pointer (some ⟨w.heap.size, 0, none⟩), .int .u64 150] 198)) (by rw [World.cell?_alloc_lt _ _ ⟨w.heap.size, 0, none⟩ (by simp; omega)]; simp)
  have st := setE tb (w.heap.size + 1 + 1 + 1) c old ((((w.alloc (.cells #[.pointer (some ⟨tb, 0, none⟩)] 195)).alloc (.cells #[.pointer (some ⟨3, 195, none⟩), .pointer (some ⟨w.heap.size, 0, none⟩), .int .u64 150] 198)).alloc (.cells #[.pointer (some ⟨3, 195, none⟩), .pointer (some ⟨w.heap.size, 0, none⟩), .int .u64 150] 198)).alloc (.cells #[.int .i64 c] 191))
    (by rw [World.cell?_alloc_at _ _ _ _ (by simp)]; rfl)
    (by rw [World.cell?_alloc_lt _ _ ⟨tb, 0, none⟩ (by simp; omega), World.cell?_alloc_lt _ _ ⟨tb, 0, none⟩ (by simp; omega), World.cell?_alloc_lt _ _ ⟨tb, 0, none⟩ (by simp; omega), World.cell?_alloc_lt _ _ ⟨tb, 0, none⟩ htl]; exact ht0)
    (by rw [World.frozen?_alloc_old _ _ ⟨tb, 0, none⟩ (by simp; omega), World.frozen?_alloc_old _ _ ⟨tb, 0, none⟩ (by simp; omega), World.frozen?_alloc_old _ _ ⟨tb, 0, none⟩ (by simp; omega), World.frozen?_alloc_old _ _ ⟨tb, 0, none⟩ (Nat.ne_of_lt htl)]; exact hf0)
  go_enter Tryz.func156, Tryz.ntmps156
  go_wp2
  refine wp_loop_rounds 1 ?_
  rw [rounds_succ]
  go_wp2
  go_ret
  exact ⟨rfl, rfl⟩
end Go.Proofs.YthfecjjahoflcaaGreatDoor
/-
  What codeOf answers: 0 of a nil error, the code of a wrongBytes. Nothing that was there turns.
  Conditions: the variable errors.errorType holds the handle of the type error.
-/
namespace Go.Proofs.YthfecjjahoflcaaGreatDoor
open Go.RowKit Go.Extern.Stop Go.Stop Go.Extern

/-- The variable errors.errorType as the program's text lays it. -/
def Laid (w : World) : Prop := w.cell? ⟨2, 0, none⟩ = some (.iface 208 (.agg #[.pointer (some ⟨3, 183, none⟩)]))
theorem Laid.pos {w : World} (h : Laid w) : 2 < w.heap.size := World.block_lt_of_cell? w _ h
theorem Laid.below {w w' : World} (h : Laid w) (hb : Below w.heap.size w w') : Laid w' := by
  unfold Laid; rw [hb.cell (p := ⟨2, 0, none⟩) h.pos]; exact h

def errV (c : Int) : Value := .iface 191 (.agg #[.int .i64 c])

set_option maxHeartbeats 1000000 in
theorem codeOf_nil (w : World) :
    Calls Tryz.prog 147 #[.nilIface] w fun e w' => e = .returned (.int .i64 0) ∧ Below w.heap.size w w' := by
  go_enter Tryz.func147, Tryz.ntmps147
  go_wp2_with (go_at_call 156; refine (as_nil _ _).mono ?_; rintro e w' ⟨rfl, hw⟩; subst hw)
  go_ret
  exact ⟨rfl, (Below.refl _ _).alloc (Nat.le_refl _) _⟩

set_option maxHeartbeats 1000000 in
theorem codeOf_hit (c : Int) (w : World) (hg : Laid w) :
    Calls Tryz.prog 147 #[.iface 191 (.agg #[.int .i64 c])] w fun e w' => e = .returned (.int .i64 c) ∧ Below w.heap.size w w' := by
  have hlt := hg.pos
  have hgA : (w.alloc (.cells #[.int .i64 0] 191)).cell? ⟨2, 0, none⟩ = some (.iface 208 (.agg #[.pointer (some ⟨3, 183, none⟩)])) := by
    rw [World.cell?_alloc_lt _ _ ⟨2, 0, none⟩ hlt]; exact hg
  have htA : (w.alloc (.cells #[.int .i64 0] 191)).cell? ⟨w.heap.size, 0, none⟩ = some (.int .i64 0) := by simp
  have hfA : (w.alloc (.cells #[.int .i64 0] 191)).frozen? ⟨w.heap.size, 0, none⟩ = false := by simp
  have HA : Hid (Laid w) := hg
  clear hg
  go_enter Tryz.func147, Tryz.ntmps147
  go_wp2_with (go_at_call 156; refine (as_hit _ _ (.int .i64 0) _ hgA htA hfA).mono ?_; rintro e w' ⟨rfl, hw⟩; subst hw)
  go_ret
  exact ⟨rfl, by go_grown⟩
end Go.Proofs.YthfecjjahoflcaaGreatDoor
