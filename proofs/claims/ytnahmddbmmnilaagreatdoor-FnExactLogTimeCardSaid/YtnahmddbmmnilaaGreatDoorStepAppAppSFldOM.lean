/-
  Parts of one proof, laid as one text: StepApp, AppS, FldOM; what each says stands at its head.
-/
import Derived.Test.YtnahmddbmmnilaaGreatDoorRows
import Derived.Handy
import Derived.OwnWalk
import Derived.Deep.AppendLies
import Derived.Deep.RegionLaw
import Derived.Test.YtnahmddbmmnilaaGreatDoorBytesDigMath
import Derived.Test.YtnahmddbmmnilaaGreatDoorSlASlBBxKOwnS
import Derived.Test.YtnahmddbmmnilaaGreatDoorNameRight
import Derived.Test.YtnahmddbmmnilaaGreatDoorJoinedPutTextFldMathFldRiseScanMath
import Derived.Test.YtnahmddbmmnilaaGreatDoorOneKFldGFldBlkRwBlkTakes
/-
  An append in a region that draws its order, by its run.
-/
namespace Go.Proofs.YtnahmddbmmnilaaGreatDoor
open Go.RowKit
set_option linter.unusedVariables false

theorem step_append_run {P : Program} {w : World} {ops : Array Oper} {o : Oper} {a : Act} {K : Act → World → Prop} {Q : Exit → Act → World → Prop} {E : Prop} (hgd : o.guard = none) (s x : Operand) (t : TypeId)
    (ho : o.op = .call { callee := .builtin .append, args := #[s, x], argTypes := #[t, t] }) (v1 v2 v' : Value) (w' : World) (hs : a.eval s = v1) (hx : a.eval x = v2)
    (hr : (Builtin.append_ #[t, t] o.type #[v1, v2]).run P w = .ok v' w') (h : K (a.put o.dst v') w') :
    if Region.wanted o (yielded ops a.tmps) = true then Oper.wp P o a w K Q else E := by
  have hw : Region.wanted o (yielded ops a.tmps) = true := by simp [Region.wanted, hgd]
  rw [if_pos hw]
  unfold Oper.wp execOp
  simp only [ho, resolve, invoke, builtin, Sem.run_bind, Sem.run_pure, Result.andThen_ok, List.map_toArray, List.map_cons, List.map_nil, hs, hx, hr]
  exact h
end Go.Proofs.YtnahmddbmmnilaaGreatDoor
/-
  append of a slice of texts onto one that the call owns: what it owns then.
-/
namespace Go.Proofs.YtnahmddbmmnilaaGreatDoor
open Go.RowKit Go.Lib
set_option linter.unusedVariables false

theorem run_append_len0 {P : Program} (w : World) (base : Nat) (t ty e : TypeId) (i : TypeInfo) (size : Nat) (ht : P.underlying t = some (.slice e)) (hi : P.info? e = some i)
    (v : Value) (n : Nat) (xs : List Value) (hown : w.ownsRow base e size v n xs) (p : Option Addr) (cap : Nat) :
    (Builtin.append_ #[t, t] ty #[v, .slice p 0 cap]).run P w = .ok v w := by
  rcases hown.2 with ⟨rfl, rfl⟩ | ⟨g, cap', cur, rfl, _, _, hnc, _⟩
  · cases p <;> simp [Builtin.append_, run_underlying ht, sizeOf, typeInfo, hi, Builtin.lenOf, Builtin.firstCells, loadCells, loadCellsFrom]
  · cases p <;> simp [Builtin.append_, run_underlying ht, sizeOf, typeInfo, hi, Builtin.lenOf, Builtin.firstCells, hnc, storeCells, loadCells, loadCellsFrom]
theorem app_texts (w : World) (base : Nat) (v : Value) (l : List ByteArray) (own : w.ownsRow base 9 1 v l.length (strRow l)) (p : Option Addr) (cap : Nat) (ss : List ByteArray) (hp : TxtAt w p ss) (hl : l.length + ss.length ≤ 1048576) (hbase : base ≤ w.heap.size) :
    ∃ v' w', (Builtin.append_ #[24, 24] 24 #[v, .slice p ss.length cap]).run Tryz.prog w = .ok v' w' ∧ w'.ownsRow base 9 1 v' (l ++ ss).length (strRow (l ++ ss)) ∧ w.grownBy w' v.ownBlock := by
  obtain ⟨i0, hi, hz0, hz1, hz2⟩ := info_parts infoStr
  by_cases h0 : ss.length = 0
  · obtain rfl : ss = [] := List.length_eq_zero_iff.1 h0
    refine ⟨v, w, run_append_len0 w base _ _ _ i0 1 Tryz.underlying24 hi v l.length (strRow l) own p cap, by simpa using own, World.grownBy.refl _ _⟩
  · obtain ⟨b, off, rfl, hb, _⟩ := hp 0 (by omega)
    obtain ⟨g, cap', w', h1, h2, h3, _⟩ := run_append_lies (P := Tryz.prog) w 24 24 base 9 i0 (.string ByteArray.empty) 1 16 Tryz.underlying24 hi hz0 hz1 hz2 rfl (by omega) v l.length (strRow l) own ⟨b, off, none⟩ ss.length cap (strRow ss) (by simp [strRow]) (fun j u hu => by
      have hj : j < ss.length := by
        rcases Nat.lt_or_ge j ss.length with q | q
        · exact q
        · rw [List.getElem?_eq_none (by simpa [strRow] using q)] at hu; cases hu
      have hadd : (⟨b, off, none⟩ : Addr).add j = ⟨b, off + j, none⟩ := by unfold Addr.add; split <;> simp_all
      rw [hadd, hp.at j hj]
      simp [strRow, hj] at hu
      rw [hu]) (fun u hu => by
      obtain ⟨x, _, rfl⟩ := List.mem_map.1 hu
      rfl) (by omega) (by unfold maxLen; omega) (by omega) hbase _ rfl
    refine ⟨_, w', h1, ?_, h3⟩
    have e1 : (l ++ ss).length = l.length + ss.length := by simp
    have e2 : strRow (l ++ ss) = strRow l ++ strRow ss := by simp [strRow]
    rw [e1, e2]; exact h2
end Go.Proofs.YtnahmddbmmnilaaGreatDoor
/-
  What RowOf answers, as plain functions; the boxes of a row that is put together.
-/
namespace Go.Proofs.YtnahmddbmmnilaaGreatDoor
open Go.RowKit Go.Lib
set_option linter.unusedVariables false
set_option maxRecDepth 20000

/-! ### What RowOf answers -/
def rfAt (ns ss vs : List ByteArray) (i : Nat) : Fld := ⟨ns.getD i ByteArray.empty, cmB (ns.getD i ByteArray.empty) (ss.getD i ByteArray.empty) (vs.getD i ByteArray.empty), ss.getD i ByteArray.empty, vs.getD i ByteArray.empty, false⟩
def rfTo (ns ss vs : List ByteArray) (k : Nat) : List Fld := (List.range k).map (rfAt ns ss vs)
theorem rfTo_len (ns ss vs : List ByteArray) (k : Nat) : (rfTo ns ss vs k).length = k := by simp [rfTo]
theorem rfTo_succ (ns ss vs : List ByteArray) (k : Nat) : rfTo ns ss vs (k + 1) = rfTo ns ss vs k ++ [rfAt ns ss vs k] := by simp [rfTo, List.range_succ]
def roBig (k : ByteArray) (ns ss vs : List ByteArray) : Prop := 8000 < k.size ∨ 400 < ns.length ∨ 400 < ss.length ∨ 400 < vs.length
def roOdd (ns ss vs : List ByteArray) : Prop := ss.length ≠ ns.length ∨ vs.length ≠ ns.length ∨ 3 < ns.length
instance (k : ByteArray) (ns ss vs : List ByteArray) : Decidable (roBig k ns ss vs) := by unfold roBig; infer_instance
instance (ns ss vs : List ByteArray) : Decidable (roOdd ns ss vs) := by unfold roOdd; infer_instance
def roC (k : ByteArray) (at_ : Int) (ns ss vs : List ByteArray) : Int := if roBig k ns ss vs then 2 else if roOdd ns ss vs then 1 else if rwB k at_ (rfTo ns ss vs ns.length) = true then 0 else 1
def roK (k : ByteArray) (at_ : Int) (ns ss vs : List ByteArray) : ByteArray := if roC k at_ ns ss vs = 0 then k else ByteArray.empty
def roA (k : ByteArray) (at_ : Int) (ns ss vs : List ByteArray) : Int := if roC k at_ ns ss vs = 0 then at_ else 0
def roF (k : ByteArray) (at_ : Int) (ns ss vs : List ByteArray) : List Fld := if roC k at_ ns ss vs = 0 then rfTo ns ss vs ns.length else []
/-- A result's box, a row's box, the row of fields that the call owns. -/
structure RoS (w : World) (k : ByteArray) (at_ : Int) (v : Value) (l : List Fld) (x : World) : Prop where
  bel : Below w.heap.size w x
  res : Bxs x w.heap.size 107 #[.string ByteArray.empty, .int .i64 0, .slice none 0 0, .int .i64 0]
  box : Bxs x (w.heap.size + 1) 29 #[.string k, .int .i64 at_, v]
  own : x.ownsRow w.heap.size 120 5 v l.length (fldRow l)
theorem ownF_ne {w : World} {base g : Nat} {e T : TypeId} {s : Nat} {v : Value} {n : Nat} {xs : List Value} {cs : Array Value} (h : w.ownsRow base e s v n xs) (hb : Bxs w g T cs) (hne : T ≠ e) : v.ownBlock ≠ some g := by
  intro he
  rcases h.2 with ⟨rfl, _⟩ | ⟨g', cap, cur, rfl, _, hg', _⟩
  · cases he
  · have : g' = g := by simpa [Value.ownBlock] using he
    subst this
    unfold Bxs at hb
    rw [hb] at hg'
    injection hg' with h1
    injection h1 with h2 h3
    exact hne h3
theorem RoS.below {w : World} {k : ByteArray} {at_ : Int} {v : Value} {l : List Fld} {x y : World} (h : RoS w k at_ v l x) (hb : Below x.heap.size x y) : RoS w k at_ v l y := ⟨chainB h.bel hb, h.res.below hb, h.box.below hb, ownS_below h.own hb⟩
theorem RoS.append {w : World} {k : ByteArray} {at_ : Int} {v v2 : Value} {l l2 : List Fld} {x x6 : World} (h : RoS w k at_ v l x) (o : Obj) (hg : (x.alloc o).grownBy x6 v.ownBlock) (ho : x6.ownsRow w.heap.size 120 5 v2 l2.length (fldRow l2)) :
    RoS w k at_ v2 l2 (x6.setCell ⟨w.heap.size + 1, 2, none⟩ v2) ∧ x6.cell? ⟨w.heap.size + 1, 2, none⟩ = some v ∧ x6.frozen? ⟨w.heap.size + 1, 2, none⟩ = false ∧ Below w.heap.size w x6 := by
  have n1 := ownF_ne h.own h.box (by decide)
  have n2 := ownF_ne h.own h.res (by decide)
  have hb : Bxs x6 (w.heap.size + 1) 29 #[.string k, .int .i64 at_, v] := (h.box.alloc o).grown hg (Ne.symm n1)
  have hr : Bxs x6 w.heap.size 107 #[.string ByteArray.empty, .int .i64 0, .slice none 0 0, .int .i64 0] := (h.res.alloc o).grown hg (Ne.symm n2)
  have hB : Below w.heap.size w x6 := (h.bel.alloc h.bel.size o).grown hg (by have := h.bel.size; simp; omega) (fun j hj => by
    rcases h.own.2 with ⟨rfl, _⟩ | ⟨g', cap, cur, rfl, hge, _⟩
    · cases hj
    · simp [Value.ownBlock] at hj; omega)
  refine ⟨⟨hB.setCell (by show _ ≤ w.heap.size + 1; omega) _, hr.other _ _ (by omega) _, ?_, ownsRow_setCell_other ho (by have := ownF_ne ho hb (by decide); simpa using this) _⟩, hb.cell 2, hb.fr 2, hB⟩
  exact hb.set 2 v2
theorem RoS.done {w : World} {k : ByteArray} {at_ : Int} {v : Value} {l : List Fld} {x : World} (h : RoS w k at_ v l x) (x0 x1 x2 x3 : Value) : ((((x.setCell ⟨w.heap.size, 0, none⟩ x0).setCell ⟨w.heap.size, 1, none⟩ x1).setCell ⟨w.heap.size, 2, none⟩ x2).setCell ⟨w.heap.size, 3, none⟩ x3).ownsRow w.heap.size 120 5 v l.length (fldRow l) ∧ Below w.heap.size w ((((x.setCell ⟨w.heap.size, 0, none⟩ x0).setCell ⟨w.heap.size, 1, none⟩ x1).setCell ⟨w.heap.size, 2, none⟩ x2).setCell ⟨w.heap.size, 3, none⟩ x3) := by
  have n2 : v.ownBlock ≠ some w.heap.size := ownF_ne h.own h.res (by decide)
  exact ⟨ownsRow_setCell_other (ownsRow_setCell_other (ownsRow_setCell_other (ownsRow_setCell_other h.own n2 _) n2 _) n2 _) n2 _, below_set4 h.bel (Nat.le_refl _) _ _ _ _⟩
theorem rfTo_le {ns ss vs : List ByteArray} (z1 : ∀ x ∈ ns, x.size ≤ maxLen) (z2 : ∀ x ∈ ss, x.size ≤ maxLen) (z3 : ∀ x ∈ vs, x.size ≤ maxLen) (k : Nat) : FldsLe (rfTo ns ss vs k) := by
  have hg : ∀ (l : List ByteArray) (j : Nat), (∀ x ∈ l, x.size ≤ maxLen) → (l.getD j ByteArray.empty).size ≤ maxLen := fun l j h => by
    by_cases hj : j < l.length
    · rw [List.getD_eq_getElem?_getD, List.getElem?_eq_getElem hj]; exact h _ (List.getElem_mem hj)
    · rw [List.getD_eq_getElem?_getD, List.getElem?_eq_none (by omega)]; exact Nat.zero_le _
  intro f hf
  obtain ⟨j, -, rfl⟩ := List.mem_map.1 hf
  exact ⟨hg ns j z1, Nat.le_trans (cmB_size _ _ _) (by unfold maxLen; omega), hg ss j z2, hg vs j z3⟩
theorem getD_at {l : List ByteArray} {i : Nat} (h : i < l.length) : l.getD i ByteArray.empty = l[i] := by rw [List.getD_eq_getElem?_getD, List.getElem?_eq_getElem h]; rfl
end Go.Proofs.YtnahmddbmmnilaaGreatDoor
