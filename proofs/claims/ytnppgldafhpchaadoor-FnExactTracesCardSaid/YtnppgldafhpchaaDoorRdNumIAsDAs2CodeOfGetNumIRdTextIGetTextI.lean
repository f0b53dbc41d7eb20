/-
  Parts of one proof, laid as one text: RdNumI, AsD, As2, CodeOf, GetNumI, RdTextI, GetTextI; what each says stands at its head.
-/
import Derived.Test.YtnppgldafhpchaaDoorRows
import Derived.Test.YtnppgldafhpchaaDoorBytes
import Derived.Test.YtnppgldafhpchaaDoorScanMath
import Derived.Test.YtnppgldafhpchaaDoorReadBits
import Derived.Test.YtnppgldafhpchaaDoorPutTextGetValGetTxtScopes
import Derived.Handy
import Derived.WalkKit
import Derived.LaidEql
import Derived.Stop.Asserts
import Derived.RowKitTokens
import Derived.Test.YtnppgldafhpchaaDoorJoined
import Derived.WalkSpells
import Derived.Deep.RegionHeld3
/-
  What the program's readNum answers.
  Conditions: the string fits the form's own reach; the place is an int64.
-/
namespace Go.Proofs.YtnppgldafhpchaaDoor
open Go.RowKit Go.Extern.Stop Go.Stop Go.Extern
set_option linter.unusedVariables false

def rnBad (c : Int) : Value := .tuple #[.int .i64 0, .int .i64 0, .iface 95 (.agg #[.int .i64 c])]
def rnOk (n a : Int) : Value := .tuple #[.int .i64 n, .int .i64 a, .nilIface]
def rnV (s : ByteArray) (a : Int) : Value := if (getN s a).2.2 = 0 then rnOk (getN s a).1 (getN s a).2.1 else rnBad (getN s a).2.2

theorem rnV_of {s : ByteArray} {a c : Int} (h : getN s a = (0, 0, c)) (hc : c ≠ 0) : rnV s a = rnBad c := by unfold rnV; rw [h, if_neg hc]
theorem rnV_okk {s : ByteArray} {a n b : Int} (h : getN s a = (n, b, 0)) : rnV s a = rnOk n b := by unfold rnV; rw [h, if_pos rfl]
set_option maxRecDepth 20000 in
set_option maxHeartbeats 2000000 in
theorem readNum_any (s : ByteArray) (at0 : Int) (w : World) (hs : s.size ≤ maxLen) (h1 : at0 ≤ 9223372036854775807) :
    Calls Tryd.prog 53 #[.string s, .int .i64 at0] w fun e w' => e = .returned (rnV s at0) ∧ w' = w := by
  unfold maxLen at hs
  by_cases hb : 8000 < s.size
  · have H : Hid (rnV s at0 = rnBad 2) := rnV_of (by unfold getN; rw [if_pos hb]) (by decide)
    go_enter Tryd.func53, Tryd.ntmps53
    go_wp2_with fail
    go_ret3
    exact ⟨ret_valN (H.out.trans rfl).symm, rfl⟩
  by_cases h0 : at0 < 0
  · have H : Hid (rnV s at0 = rnBad 1) := rnV_of (by unfold getN; rw [if_neg hb, if_pos h0]) (by decide)
    go_enter Tryd.func53, Tryd.ntmps53
    go_wp2_with fail
    go_ret3
    exact ⟨ret_valN (H.out.trans rfl).symm, rfl⟩
  obtain ⟨a, ha⟩ : ∃ a : Nat, at0 = a := ⟨at0.toNat, by omega⟩
  subst ha
  rcases scanAt_bd s a with hbd | hbd
  · obtain ⟨c, u, k, hsc⟩ : ∃ c u k, scanAt s a = (c, u, k) := ⟨_, _, _, rfl⟩
    rw [hsc] at hbd
    have hc0 : c = 0 := hbd.1
    subst hc0
    have u0' : 0 ≤ u := hbd.2.1
    have u1' : u ≤ 18446744073709551615 := hbd.2.2.1
    have HRB : Hid (rbV s a = .tuple #[.int .u64 u, .int .i64 ((a : Int) + (k : Int)), .nilIface]) := rbV_ok hsc
    have H : Hid (rnV s (a : Int) = rnOk (unfoldN u) ((a : Int) + (k : Int))) := rnV_okk (by unfold getN; rw [if_neg hb, if_neg h0, Int.toNat_natCast, hsc, if_pos rfl])
    have HA : Hid (bits .and .u64 u 1 = u % 2) := and1 u u0' (by omega)
    clear hbd hsc
    cases hp : (bits .and .u64 u 1 == 1)
    · have HU : Hid (unfoldN u = u / 2) := if_neg (by rw [HA.out] at hp; simp at hp; omega)
      go_enter Tryd.func53, Tryd.ntmps53
      go_wp2_with (go_at_call 55; refine (readBits_any _ _ _ (by omega) h1).mono ?_; rintro e w1 ⟨rfl, hw⟩; rw [HRB.out]; subst hw)
      go_ret3
      exact ⟨ret_valN (by rw [H.out, HU.out]; rfl), rfl⟩
    · have HU : Hid (unfoldN u = -(u / 2) - 1) := if_pos (by rw [HA.out] at hp; simpa using hp)
      have HN : Hid (bits .xor .i64 (-1) (u / 2) = -(u / 2) - 1) := not64 (u / 2) (by omega) (by omega)
      go_enter Tryd.func53, Tryd.ntmps53
      go_wp2_with (go_at_call 55; refine (readBits_any _ _ _ (by omega) h1).mono ?_; rintro e w1 ⟨rfl, hw⟩; rw [HRB.out]; subst hw)
      go_ret3
      exact ⟨ret_valN (by rw [H.out, HU.out, ← HN.out]; rfl), rfl⟩
  · obtain ⟨c, u, k, hsc⟩ : ∃ c u k, scanAt s a = (c, u, k) := ⟨_, _, _, rfl⟩
    rw [hsc] at hbd
    obtain ⟨hc34, hu0, hk0⟩ := hbd
    have e1 : u = 0 := hu0
    have e2 : k = 0 := hk0
    subst e1 e2
    have hc : c ≠ 0 := by have : c = 3 ∨ c = 4 := hc34; omega
    have HRB : Hid (rbV s a = .tuple #[.int .u64 0, .int .i64 0, .iface 95 (.agg #[.int .i64 c])]) := rbV_bad ⟨hc, hsc⟩
    have H : Hid (rnV s (a : Int) = rnBad c) := rnV_of (by unfold getN; rw [if_neg hb, if_neg h0, Int.toNat_natCast, hsc, if_neg hc]) hc
    clear hsc hc34 hu0 hk0 hc
    go_enter Tryd.func53, Tryd.ntmps53
    go_wp2_with (go_at_call 55; refine (readBits_any _ _ _ (by omega) h1).mono ?_; rintro e w1 ⟨rfl, hw⟩; rw [HRB.out]; subst hw)
    go_ret3
    exact ⟨ret_valN (H.out.trans rfl).symm, rfl⟩
end Go.Proofs.YtnppgldafhpchaaDoor
/-
  errors.As at the target *wrongBytes, by its contracts: a nil error: false, nothing turns; an error that is a wrongBytes: true, and the target holds it; nothing else that was there turns. After the guide's worked example of errors.As.
  Conditions: the variable errors.errorType holds the handle of the type error; the target's cell is there and may be written.
-/
namespace Go.Proofs.YtnppgldafhpchaaDoor
open Go.RowKit Go.Extern.Stop Go.Stop Go.Extern

theorem kindE (w : World) : ((ReflectliteType.abiMethod fun t => (fun a : Nat => Value.int IntKind.u8 (a : Int)) <$> Rtype.kind t) #[.pointer (some ⟨3, 95, none⟩)]).run Tryd.prog w = .ok (.int .u8 25) w := by kernel_rfl
theorem valueOfE (c : Int) (w : World) : (ReflectliteValue.unpack (.iface 95 (.agg #[.int .i64 c]))).run Tryd.prog w
    = .ok (.agg #[.pointer (some ⟨3, 95, none⟩), .pointer (some ⟨w.heap.size, 0, none⟩), .int .u64 153]) (w.alloc (.cells #[.int .i64 c] 95)) := by kernel_rfl
theorem mkE (p : Addr) (w : World) : (ReflectliteValue.mk 95 p ReflectliteValue.flagAddr).run Tryd.prog w = .ok (.agg #[.pointer (some ⟨3, 95, none⟩), .pointer (some p), .int .u64 409]) w := by kernel_rfl
theorem partsEa (a : Addr) (w : World) : (ReflectliteValue.parts (.agg #[.pointer (some ⟨3, 95, none⟩), .pointer (some a), .int .u64 409])).run Tryd.prog w = .ok (some (95, a, 409)) w := by kernel_rfl
theorem partsE (a : Addr) (w : World) : (ReflectliteValue.parts (.agg #[.pointer (some ⟨3, 95, none⟩), .pointer (some a), .int .u64 153])).run Tryd.prog w = .ok (some (95, a, 153)) w := by kernel_rfl
theorem directE (w : World) : (Rtype.directlyAssignable 95 95).run Tryd.prog w = .ok true w := by kernel_rfl
theorem sizeE (w : World) : (sizeOf 95).run Tryd.prog w = .ok 1 w := by kernel_rfl
theorem isAggE (w : World) : (isAgg 95).run Tryd.prog w = .ok true w := by kernel_rfl
theorem setE (b1 b2 : Nat) (c : Int) (old : Value) (W : World) (hb : W.cell? ⟨b2, 0, none⟩ = some (.int .i64 c)) (ht : W.cell? ⟨b1, 0, none⟩ = some old) (hf : W.frozen? ⟨b1, 0, none⟩ = false) :
    (ReflectliteValue.set #[.agg #[.pointer (some ⟨3, 95, none⟩), .pointer (some ⟨b1, 0, none⟩), .int .u64 409], .agg #[.pointer (some ⟨3, 95, none⟩), .pointer (some ⟨b2, 0, none⟩), .int .u64 153]]).run Tryd.prog W
      = .ok (.tuple #[]) (W.setCell ⟨b1, 0, none⟩ (.int .i64 c)) := by
  show (Sem.run Tryd.prog (ReflectliteValue.parts (.agg #[.pointer (some ⟨3, 95, none⟩), .pointer (some ⟨b1, 0, none⟩), .int .u64 409]) >>= fun x => ReflectliteValue.parts (.agg #[.pointer (some ⟨3, 95, none⟩), .pointer (some ⟨b2, 0, none⟩), .int .u64 153]) >>= _) W) = _
  simp only [Sem.run_bind, partsEa, partsE, Result.andThen]
  simp [ReflectliteValue.flagAddr, loadVar, Result.andThen, directE, storeVar, Value.cells, storeCells, Addr.add]
  have hl : (loadCells ⟨b2, 0, none⟩ 1).run Tryd.prog W = .ok #[.int .i64 c] W := by
    have := run_loadCells (P := Tryd.prog) W ⟨b2, 0, none⟩ 1 (fun _ => .int .i64 c) (fun j hj => by
      obtain rfl : j = 0 := by omega
      simpa [Addr.add] using hb)
    simpa using this
  rw [hl]
  simp [storeCells, Addr.add]
  rw [run_store Tryd.prog W ⟨b1, 0, none⟩ _ _ (by rfl)]
  simp [ht, hf]
end Go.Proofs.YtnppgldafhpchaaDoor
/-
  errors.As at the target *wrongBytes, and what codeOf answers. After the guide's worked example of errors.As.
  Conditions: the variable errors.errorType holds the handle of the type error; the target's cell is there and may be written.
-/
namespace Go.Proofs.YtnppgldafhpchaaDoor
open Go.RowKit Go.Extern.Stop Go.Stop Go.Extern

end Go.Proofs.YtnppgldafhpchaaDoor
/-
  What codeOf answers: 0 of a nil error, the code of a wrongBytes. Nothing that was there turns.
  Conditions: the variable errors.errorType holds the handle of the type error.
-/
namespace Go.Proofs.YtnppgldafhpchaaDoor
open Go.RowKit Go.Extern.Stop Go.Stop Go.Extern

def errV (c : Int) : Value := .iface 95 (.agg #[.int .i64 c])

end Go.Proofs.YtnppgldafhpchaaDoor
/-
  What the program's readNum and GetNum answer: 'getN' of the text and the place.
  Conditions: the string fits the form's own reach; the place is an int64; for GetNum: the variable errors.errorType holds the handle of the type error.
-/
namespace Go.Proofs.YtnppgldafhpchaaDoor
open Go.RowKit Go.Extern.Stop Go.Stop Go.Extern
set_option linter.unusedVariables false

end Go.Proofs.YtnppgldafhpchaaDoor
/-
  What the program's readText answers.
  Conditions: the string fits the form's own reach; the place is an int64.
-/
namespace Go.Proofs.YtnppgldafhpchaaDoor
open Go.RowKit Go.Extern.Stop Go.Stop Go.Extern
set_option linter.unusedVariables false

def rtBad (c : Int) : Value := .tuple #[.string ByteArray.empty, .int .i64 0, .iface 95 (.agg #[.int .i64 c])]
def rtOk (t : ByteArray) (a : Int) : Value := .tuple #[.string t, .int .i64 a, .nilIface]
/-- What readText hands back, and GetText's answer beside it. -/
def ReadsTo (s : ByteArray) (a : Int) (v : Value) : Prop :=
  (∃ c, c ≠ 0 ∧ v = rtBad c ∧ getTV s a = txt ByteArray.empty 0 c) ∨ (∃ t b, v = rtOk t b ∧ getTV s a = txt t b 0)

end Go.Proofs.YtnppgldafhpchaaDoor
/-
  What GetText answers, in the program and in the specification: 'getTV' of the text and the place.
  Conditions: the string fits the form's own reach; the place is an int64; for the program's: the variable errors.errorType holds the handle of the type error.
-/
namespace Go.Proofs.YtnppgldafhpchaaDoor
open Go.RowKit Go.Extern.Stop Go.Stop Go.Extern
set_option linter.unusedVariables false

end Go.Proofs.YtnppgldafhpchaaDoor
