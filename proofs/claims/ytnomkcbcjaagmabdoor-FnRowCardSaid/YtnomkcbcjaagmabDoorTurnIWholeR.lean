/-
  Parts of one proof, laid as one text: TurnI, WholeR; what each says stands at its head.
-/
import Derived.Test.YtnomkcbcjaagmabDoorRows
import Derived.Test.YtnomkcbcjaagmabDoorBytesDigMath
import Derived.Handy
import Derived.Laws.Rows
import Derived.Laws.Tables
import Derived.Laws.ResultCell
import Derived.Deep.WholeRow
import Derived.Deep.AppendLies
/-
  The program's turnedRight: a number of 32 bits turned right by 1 to 31 places: 'turnR'.
-/
namespace Go.Proofs.YtnomkcbcjaagmabDoor
open Go.RowKit Go.Lib
set_option linter.unusedVariables false

theorem ret_intT {k : IntKind} {a b : Int} (h : a = b) : Ending.returned (.int k a) = .returned (.int k b) := by rw [h]
theorem bits_or_comm (a b : Int) : bits .or .u32 a b = bits .or .u32 b a := by
  show IntKind.u32.wrap ((BitVec.ofInt 32 a ||| BitVec.ofInt 32 b).toNat : Int) = IntKind.u32.wrap ((BitVec.ofInt 32 b ||| BitVec.ofInt 32 a).toNat : Int)
  rw [BitVec.or_comm]
theorem rot_s (k : Nat) (h0 : 1 ≤ k) (h1 : k ≤ 31) : bits .and .u64 (IntKind.u64.wrap (-(k : Int))) 31 = 32 - (k : Int) := by
  have key : ∀ y : Fin 32, 1 ≤ y.val → bits .and .u64 (IntKind.u64.wrap (-((y.val : Nat) : Int))) 31 = 32 - ((y.val : Nat) : Int) := by decide +kernel
  exact key ⟨k, by omega⟩ h0

set_option maxHeartbeats 400000 in
theorem rot_any (x : Int) (k : Nat) (w : World) (h0 : 0 ≤ x) (h1 : x ≤ 4294967295) (k0 : 1 ≤ k) (k1 : k ≤ 31) :
    Calls Tryd.prog 107 #[.int .u32 x, .int .i64 (-(k : Int))] w fun e w' => e = .returned (.int .u32 (turnR x k)) ∧ w' = w := by
  have hs := rot_s k k0 k1
  have hc : turnR x k = bits .or .u32 (x * 2 ^ (32 - k) % 4294967296) (x / 2 ^ k) := bits_or_comm _ _
  have HC : Hid (turnR x k = bits .or .u32 (x * 2 ^ (32 - k) % 4294967296) (x / 2 ^ k)) := hc
  clear hc
  have e1 : IntKind.u64.wrap (32 - (32 - (k : Int))) = (k : Int) := by rw [IntKind.wrap_u64]; omega
  have e2 : ((32 : Int) - (k : Int)).toNat = 32 - k := by omega
  go_enter Tryd.func107, Tryd.ntmps107
  go_wp2
  go_ret
  exact ⟨ret_intT HC.out.symm, rfl⟩

theorem turnI_c (x c : Int) (w : World) (h0 : 0 ≤ x) (h1 : x ≤ 4294967295) (c0 : 1 ≤ c) (c1 : c ≤ 31) :
    Calls Tryd.prog 98 #[.int .u32 x, .int .i64 c] w fun e w' => e = .returned (.int .u32 (turnR x c.toNat)) ∧ w' = w := by
  obtain ⟨k, rfl⟩ : ∃ k : Nat, c = k := ⟨c.toNat, by omega⟩
  go_enter Tryd.func98, Tryd.ntmps98
  go_wp2_with (go_at_call 107; refine (rot_any _ k _ h0 h1 (by omega) (by omega)).mono ?_; rintro e w' ⟨rfl, rfl⟩)
  go_ret
  exact ⟨rfl, rfl⟩
end Go.Proofs.YtnomkcbcjaagmabDoor
/-
  A whole array by value out of a block, and into one, as one step of a walk; a result that lies in a block.
  Nothing of the program is named here.
-/
namespace Go.Proofs.YtnomkcbcjaagmabDoor
open Go.RowKit Go.Lib
set_option linter.unusedVariables false

theorem wpList_load_row {P : Program} {w : World} {ops : Array Oper} {rest : List Oper} {o : Oper} {a : Act} {Q : Exit → Act → World → Prop} (hgd : o.guard = none) (t : TypeId) (x : Operand)
    (ho : o.op = .load t x) (g : Addr) (v : Value) (hx : a.eval x = .pointer (some g)) (hl : (loadVar t g).run P w = .ok v w)
    (h : wpList P ops Q rest (a.put o.dst v) w) : wpList P ops Q (o :: rest) a w :=
  wpList_plain hgd fun _ hK => by
    unfold Oper.wp execOp
    simp only [ho, hx, Instr.loadAt, Instr.sureAddr, Sem.run_bind, Sem.run_pure, Result.andThen_ok, hl]
    exact hK _ _ h
theorem wpList_store_row {P : Program} {w : World} {ops : Array Oper} {rest : List Oper} {o : Oper} {a : Act} {Q : Exit → Act → World → Prop} (hgd : o.guard = none) (t : TypeId) (x y : Operand)
    (ho : o.op = .store t x y) (hd : o.dst = none) (g : Addr) (v : Value) (w' : World) (hx : a.eval x = .pointer (some g)) (hy : a.eval y = v) (hl : (storeVar t g v).run P w = .ok () w')
    (h : wpList P ops Q rest a w') : wpList P ops Q (o :: rest) a w :=
  wpList_plain hgd fun _ hK => by
    have e : a.put o.dst undef = a := by rw [hd]; rfl
    unfold Oper.wp execOp
    simp only [ho, hx, hy, Instr.storeAt, Instr.sureAddr, Sem.run_bind, Sem.run_pure, Result.andThen_ok, hl]
    exact hK _ _ (by rw [e]; exact h)
theorem results_cell {fn : Func} {p : Tmp} {ty : TypeId} (h : fn.results = #[.cell p ty]) (tmps : Array Value) (P : Program) (w : World) :
    (results fn tmps).run P w = ((asAddr (tmps.getD p undef)).run P w).andThen fun a w₁ => (loadVar ty a).run P w₁ := by
  simp only [results, h]
  simp [Sem.run_bind, Result.andThen]
theorem bodyPost_cell {P : Program} {fn : Func} {R : Ending → World → Prop} {a : Act} {w : World} {p : Tmp} {ty : TypeId} {g : Addr} {v : Value} (h : fn.results = #[.cell p ty]) (hd : a.defers = [])
    (hp : a.tmps.getD p undef = .pointer (some g)) (hl : (loadVar ty g).run P w = .ok v w) (hR : R (.returned v) w) : bodyPost P fn R .ret a w := by
  refine bodyPost_ret (v := v) ?_ hd hR
  rw [results_cell h, hp]
  simp [asAddr, Result.andThen, hl]
end Go.Proofs.YtnomkcbcjaagmabDoor
