/-
  Parts of one proof, laid as one text: FldW, TurnI, WholeR; what each says stands at its head.
-/
import Derived.Test.YtnomkcbcjaagmabGreatDoorRows
import Derived.Test.YtnomkcbcjaagmabGreatDoorBytesDigMath
import Derived.Test.YtnomkcbcjaagmabGreatDoorJoinedPutTextFldMath
import Derived.Test.YtnomkcbcjaagmabGreatDoorFldR
import Derived.Test.YtnomkcbcjaagmabGreatDoorFldRiseFldGShwK
import Derived.Test.YtnomkcbcjaagmabGreatDoorFldV
import Derived.Test.YtnomkcbcjaagmabGreatDoorFldB
import Derived.Test.YtnomkcbcjaagmabGreatDoorFldS
import Derived.Handy
import Derived.Laws.Rows
import Derived.Laws.Tables
import Derived.Laws.ResultCell
import Derived.Deep.WholeRow
import Derived.Deep.AppendLies
/-
  What is shown of a right row leads to the row's leaf; it is the same when others were forgotten (promise 11, as plain laws).
-/
namespace Go.Proofs.YtnomkcbcjaagmabGreatDoor
open Go.RowKit Go.Lib
set_option linter.unusedVariables false

theorem shC_parts {k : ByteArray} {at_ : Int} {fs : List Fld} {i : Int} (h : shC k at_ fs i = 0) : rwB k at_ fs = true ∧ (0 ≤ i ∧ i ≤ (fs.length : Int) - 1) ∧ (fs.getD i.toNat fld0).g = false := by
  unfold shC at h
  split at h
  · split at h
    · split at h
      · cases h
      · rename_i h1 h2 h3
        exact ⟨h1, h2, by simpa using h3⟩
    · cases h
  · cases h
theorem show_fields {k : ByteArray} {at_ : Int} {fs : List Fld} {i : Int} (h : shC k at_ fs i = 0) (j : Nat) (hj : j < fs.length) : svAt (shO k at_ fs i) j = if (j : Int) = i then fs[j] else goneF fs[j] := by
  obtain ⟨h1, h2, h3⟩ := shC_parts h
  have ho : shO k at_ fs i = ⟨k, at_, fs.map (fun f => f.n), fs.map (fun f => f.c), i, (fs.getD i.toNat fld0).s, (fs.getD i.toNat fld0).v⟩ := if_pos h
  rw [ho]
  unfold svAt
  dsimp only
  have e1 : (fs.map (fun f => f.n)).getD j ByteArray.empty = fs[j].n := by simp [List.getD_eq_getElem?_getD, hj]
  have e2 : (fs.map (fun f => f.c)).getD j ByteArray.empty = fs[j].c := by simp [List.getD_eq_getElem?_getD, hj]
  rw [e1, e2]
  by_cases hji : (j : Int) = i
  · rw [if_pos hji, if_pos hji]
    subst hji
    have e3 : fs.getD ((j : Int).toNat) fld0 = fs[j] := by simp [List.getD_eq_getElem?_getD, hj]
    rw [e3] at h3 ⊢
    cases hf : fs[j]
    rw [hf] at h3
    simp at h3 ⊢
    exact h3
  · rw [if_neg hji, if_neg hji]; rfl
/-- What is shown leads to the row's leaf. -/
theorem show_leaf {k : ByteArray} {at_ : Int} {fs : List Fld} {i : Int} (h : shC k at_ fs i = 0) : svB (shO k at_ fs i) = lfB k at_ fs ∧ sbOk (shO k at_ fs i) = true := by
  obtain ⟨h1, h2, h3⟩ := shC_parts h
  have ho : shO k at_ fs i = ⟨k, at_, fs.map (fun f => f.n), fs.map (fun f => f.c), i, (fs.getD i.toNat fld0).s, (fs.getD i.toNat fld0).v⟩ := if_pos h
  have hn : (shO k at_ fs i).ns.length = fs.length := by rw [ho]; simp
  have hc : (shO k at_ fs i).cs.length = fs.length := by rw [ho]; simp
  have hi : (shO k at_ fs i).ix = i := by rw [ho]
  have hk : (shO k at_ fs i).k = k := by rw [ho]
  have ha : (shO k at_ fs i).at_ = at_ := by rw [ho]
  obtain ⟨r1, r2, r3, r4, r5⟩ := rwB_parts h1
  have hok : svOk (shO k at_ fs i) = true := by
    unfold svOk
    rw [hn, hc, hi, decide_eq_true rfl, decide_eq_true r3.2, decide_eq_true h2]; rfl
  have hat : ∀ j (hj : j < fs.length), (svF (shO k at_ fs i) fs.length)[j]'(by rw [svF_len]; exact hj) = if (j : Int) = i then fs[j] else goneF fs[j] := fun j hj => by
    rw [← show_fields h j hj]; simp [svF]
  have hs2 : same2 (svF (shO k at_ fs i) fs.length) fs := by
    unfold same2
    apply List.ext_getElem
    · simp [svF_len]
    · intro j j1 j2
      have hj : j < fs.length := by simpa using j2
      rw [List.getElem_map, List.getElem_map, hat j hj]
      split <;> rfl
  have hrw : rwB k at_ (svF (shO k at_ fs i) fs.length) = true := by
    refine rwB_same hs2 h1 (fun f hf => ?_)
    obtain ⟨j, hj, rfl⟩ := List.getElem_of_mem hf
    have hj' : j < fs.length := by rwa [svF_len] at hj
    rw [hat j hj']
    split
    · exact r4 _ (List.getElem_mem hj')
    · exact fdB_gone (r4 _ (List.getElem_mem hj'))
  refine ⟨?_, ?_⟩
  · unfold svB
    rw [if_pos hok, hk, ha, hn]
    unfold lfB
    rw [if_pos hrw, if_pos h1, lfT_same hs2]
  · unfold sbOk
    rw [hok, hk, ha, hn, hrw]; rfl
/-- Another field's forgetting changes nothing of what is shown. -/
theorem show_other {k : ByteArray} {at_ : Int} {fs : List Fld} {i : Int} (h : shC k at_ fs i = 0) (j : Nat) (hj : j < fs.length) (hne : (j : Int) ≠ i) : shC k at_ (fs.set j (goneF fs[j])) i = 0 ∧ shO k at_ (fs.set j (goneF fs[j])) i = shO k at_ fs i := by
  obtain ⟨h1, h2, h3⟩ := shC_parts h
  have hg : (fs.set j (goneF fs[j])).getD i.toNat fld0 = fs.getD i.toNat fld0 := by
    rw [List.getD_eq_getElem?_getD, List.getD_eq_getElem?_getD, List.getElem?_set_ne (by omega)]
  have hc : shC k at_ (fs.set j (goneF fs[j])) i = 0 := by
    unfold shC
    rw [if_pos (forget_right h1 j hj), List.length_set, if_pos h2, hg, if_neg (by rw [h3]; exact Bool.false_ne_true)]
  refine ⟨hc, ?_⟩
  have hs : same2 (fs.set j (goneF fs[j])) fs := same2_set j _ (fun _ => ⟨rfl, rfl⟩)
  have e1 : (fs.set j (goneF fs[j])).map (fun f => f.n) = fs.map (fun f => f.n) := by have := congrArg (List.map Prod.fst) hs; simpa [Function.comp_def] using this
  have e2 : (fs.set j (goneF fs[j])).map (fun f => f.c) = fs.map (fun f => f.c) := by have := congrArg (List.map Prod.snd) hs; simpa [Function.comp_def] using this
  unfold shO
  rw [if_pos hc, if_pos h, hg, e1, e2]
end Go.Proofs.YtnomkcbcjaagmabGreatDoor
/-
  The program's turnedRight: a number of 32 bits turned right by 1 to 31 places: 'turnR'.
-/
namespace Go.Proofs.YtnomkcbcjaagmabGreatDoor
open Go.RowKit Go.Lib
set_option linter.unusedVariables false

theorem ret_intT {k : IntKind} {a b : Int} (h : a = b) : Ending.returned (.int k a) = .returned (.int k b) := by rw [h]
theorem bits_or_comm (a b : Int) : bits .or .u32 a b = bits .or .u32 b a := by
  show IntKind.u32.wrap ((BitVec.ofInt 32 a ||| BitVec.ofInt 32 b).toNat : Int) = IntKind.u32.wrap ((BitVec.ofInt 32 b ||| BitVec.ofInt 32 a).toNat : Int)
  rw [BitVec.or_comm]
theorem rot_s (k : Nat) (h0 : 1 ≤ k) (h1 : k ≤ 31) : bits .and .u64 (IntKind.u64.wrap (-(k : Int))) 31 = 32 - (k : Int) := by
  have key : ∀ y : Fin 32, 1 ≤ y.val → bits .and .u64 (IntKind.u64.wrap (-((y.val : Nat) : Int))) 31 = 32 - ((y.val : Nat) : Int) := by decide +kernel
  exact key ⟨k, by omega⟩ h0

set_option maxHeartbeats 400000 in
theorem rot_any (x : Int) (k : Nat) (w : World) (h0 : 0 ≤ x) (h1 : x ≤ 4294967295) (k0 : 1 ≤ k) (k1 : k ≤ 31) :
    Calls Tryz.prog 191 #[.int .u32 x, .int .i64 (-(k : Int))] w fun e w' => e = .returned (.int .u32 (turnR x k)) ∧ w' = w := by
  have hs := rot_s k k0 k1
  have hc : turnR x k = bits .or .u32 (x * 2 ^ (32 - k) % 4294967296) (x / 2 ^ k) := bits_or_comm _ _
  have HC : Hid (turnR x k = bits .or .u32 (x * 2 ^ (32 - k) % 4294967296) (x / 2 ^ k)) := hc
  clear hc
  have e1 : IntKind.u64.wrap (32 - (32 - (k : Int))) = (k : Int) := by rw [IntKind.wrap_u64]; omega
  have e2 : ((32 : Int) - (k : Int)).toNat = 32 - k := by omega
  go_enter Tryz.func191, Tryz.ntmps191
  go_wp2
  go_ret
  exact ⟨ret_intT HC.out.symm, rfl⟩

theorem turnI_c (x c : Int) (w : World) (h0 : 0 ≤ x) (h1 : x ≤ 4294967295) (c0 : 1 ≤ c) (c1 : c ≤ 31) :
    Calls Tryz.prog 178 #[.int .u32 x, .int .i64 c] w fun e w' => e = .returned (.int .u32 (turnR x c.toNat)) ∧ w' = w := by
  obtain ⟨k, rfl⟩ : ∃ k : Nat, c = k := ⟨c.toNat, by omega⟩
  go_enter Tryz.func178, Tryz.ntmps178
  go_wp2_with (go_at_call 191; refine (rot_any _ k _ h0 h1 (by omega) (by omega)).mono ?_; rintro e w' ⟨rfl, rfl⟩)
  go_ret
  exact ⟨rfl, rfl⟩
end Go.Proofs.YtnomkcbcjaagmabGreatDoor
/-
  A whole array by value out of a block, and into one, as one step of a walk; a result that lies in a block.
  Nothing of the program is named here.
-/
namespace Go.Proofs.YtnomkcbcjaagmabGreatDoor
open Go.RowKit Go.Lib
set_option linter.unusedVariables false

theorem wpList_load_row {P : Program} {w : World} {ops : Array Oper} {rest : List Oper} {o : Oper} {a : Act} {Q : Exit → Act → World → Prop} (hgd : o.guard = none) (t : TypeId) (x : Operand)
    (ho : o.op = .load t x) (g : Addr) (v : Value) (hx : a.eval x = .pointer (some g)) (hl : (loadVar t g).run P w = .ok v w)
    (h : wpList P ops Q rest (a.put o.dst v) w) : wpList P ops Q (o :: rest) a w :=
  wpList_plain hgd fun _ hK => by
    unfold Oper.wp execOp
    simp only [ho, hx, Instr.loadAt, Instr.sureAddr, Sem.run_bind, Sem.run_pure, Result.andThen_ok, hl]
    exact hK _ _ h
theorem wpList_store_row {P : Program} {w : World} {ops : Array Oper} {rest : List Oper} {o : Oper} {a : Act} {Q : Exit → Act → World → Prop} (hgd : o.guard = none) (t : TypeId) (x y : Operand)
    (ho : o.op = .store t x y) (hd : o.dst = none) (g : Addr) (v : Value) (w' : World) (hx : a.eval x = .pointer (some g)) (hy : a.eval y = v) (hl : (storeVar t g v).run P w = .ok () w')
    (h : wpList P ops Q rest a w') : wpList P ops Q (o :: rest) a w :=
  wpList_plain hgd fun _ hK => by
    have e : a.put o.dst undef = a := by rw [hd]; rfl
    unfold Oper.wp execOp
    simp only [ho, hx, hy, Instr.storeAt, Instr.sureAddr, Sem.run_bind, Sem.run_pure, Result.andThen_ok, hl]
    exact hK _ _ (by rw [e]; exact h)
theorem results_cell {fn : Func} {p : Tmp} {ty : TypeId} (h : fn.results = #[.cell p ty]) (tmps : Array Value) (P : Program) (w : World) :
    (results fn tmps).run P w = ((asAddr (tmps.getD p undef)).run P w).andThen fun a w₁ => (loadVar ty a).run P w₁ := by
  simp only [results, h]
  simp [Sem.run_bind, Result.andThen]
theorem bodyPost_cell {P : Program} {fn : Func} {R : Ending → World → Prop} {a : Act} {w : World} {p : Tmp} {ty : TypeId} {g : Addr} {v : Value} (h : fn.results = #[.cell p ty]) (hd : a.defers = [])
    (hp : a.tmps.getD p undef = .pointer (some g)) (hl : (loadVar ty g).run P w = .ok v w) (hR : R (.returned v) w) : bodyPost P fn R .ret a w := by
  refine bodyPost_ret (v := v) ?_ hd hR
  rw [results_cell h, hp]
  simp [asAddr, Result.andThen, hl]
end Go.Proofs.YtnomkcbcjaagmabGreatDoor
