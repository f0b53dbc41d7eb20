/-
  Parts of one proof, laid as one text: OneK, FldOM; what each says stands at its head.
-/
import Derived.Test.YtnomkcbcjaagmabGreatDoorRows
import Derived.Test.YtnomkcbcjaagmabGreatDoorBytesDigMath
import Derived.Test.YtnomkcbcjaagmabGreatDoorSlASlBOwnS
import Derived.Test.YtnomkcbcjaagmabGreatDoorBxKGrKTakesSrc
import Derived.Test.YtnomkcbcjaagmabGreatDoorFldRiseFldGShwK
import Derived.Test.YtnomkcbcjaagmabGreatDoorJoinedPutTextFldMath
import Derived.Handy
import Derived.OwnWalk
import Derived.Deep.AppendLies
import Derived.Test.YtnomkcbcjaagmabGreatDoorNameRight
/-
  A field put behind a row of fields of one's own; a box with such a row.
-/
namespace Go.Proofs.YtnomkcbcjaagmabGreatDoor
open Go.RowKit Go.Lib
set_option linter.unusedVariables false

theorem infoFld : (Tryz.prog.info? 59).map (fun i => (i.zero, i.size, i.bytes)) = some (some (.agg #[.string ByteArray.empty, .string ByteArray.empty, .string ByteArray.empty, .string ByteArray.empty, .bool false]), 5, 72) := by kernel_rfl
theorem app_fld (w : World) (base : Nat) (v : Value) (l : List Fld) (own : w.ownsRow base 59 5 v l.length (fldRow l)) (fn fc fs fv : ByteArray) (fg : Bool) (hl : l.length + 1 ≤ 1048576) (hbase : base ≤ w.heap.size) :
    ∃ g c w', (Builtin.append_ #[42, 42] 42 #[v, .slice (some ⟨w.heap.size, 0, none⟩) 1 1]).run Tryz.prog (w.alloc (.cells #[.string fn, .string fc, .string fs, .string fv, .bool fg] 59)) = .ok (.slice (some ⟨g, 0, none⟩) (l.length + 1) c) w' ∧
      w'.ownsRow base 59 5 (.slice (some ⟨g, 0, none⟩) (l.length + 1) c) (l ++ [(⟨fn, fc, fs, fv, fg⟩ : Fld)]).length (fldRow (l ++ [(⟨fn, fc, fs, fv, fg⟩ : Fld)])) ∧ (w.alloc (.cells #[.string fn, .string fc, .string fs, .string fv, .bool fg] 59)).grownBy w' v.ownBlock ∧ (v.ownBlock = some g ∨ g = w.heap.size + 1) := by
  obtain ⟨i0, hi, hz0, hz1, hz2⟩ := info_parts infoFld
  obtain ⟨g, c, w', h1, h2, h3, h4, _⟩ := run_append_lies (P := Tryz.prog) (w.alloc (.cells #[.string fn, .string fc, .string fs, .string fv, .bool fg] 59)) 42 42 base 59 i0 _ 5 72 Tryz.underlying42 hi hz0 hz1 hz2 rfl (by omega) v l.length (fldRow l) (own.alloc _) ⟨w.heap.size, 0, none⟩ 1 1 (fldRow [(⟨fn, fc, fs, fv, fg⟩ : Fld)]) rfl (fun j u hu => by
      have hj : j < 5 := by
        rcases Nat.lt_or_ge j 5 with q | q
        · exact q
        · rw [List.getElem?_eq_none (by rw [fldRow_len]; exact q)] at hu; cases hu
      have hadd : (⟨w.heap.size, 0, none⟩ : Addr).add j = ⟨w.heap.size, 0 + j, none⟩ := by unfold Addr.add; split <;> simp_all
      rw [hadd, Nat.zero_add, World.cell?_alloc_mark]
      match j, hj with
      | 0, _ => exact hu
      | 1, _ => exact hu
      | 2, _ => exact hu
      | 3, _ => exact hu
      | 4, _ => exact hu) (fun u hu => by
      simp [fldRow, fldCells] at hu
      rcases hu with rfl | rfl | rfl | rfl | rfl <;> rfl) (by omega) (by unfold maxLen; omega) (by omega) (by simp; omega) (w.heap.size + 1) (by simp)
  refine ⟨g, c, w', h1, ?_, h3, h4⟩
  have e1 : (l ++ [(⟨fn, fc, fs, fv, fg⟩ : Fld)]).length = l.length + 1 := by simp
  rw [e1, fldRow_append]; exact h2
/-- A box with one row of fields of its own. -/
structure One7 (W : World) (Z : Nat) (T : TypeId) (cs : Array Value) (v : Value) (l : List Fld) (x : World) : Prop where
  bel : Below W.heap.size W x
  hZ : W.heap.size ≤ Z
  hT : T ≠ 59
  box : Bxs x Z T cs
  own : x.ownsRow W.heap.size 59 5 v l.length (fldRow l)
theorem One7.below {W : World} {Z : Nat} {T : TypeId} {cs : Array Value} {v : Value} {l : List Fld} {x y : World} (h : One7 W Z T cs v l x) (hb : Below x.heap.size x y) : One7 W Z T cs v l y := ⟨chainB h.bel hb, h.hZ, h.hT, h.box.below hb, ownS_below h.own hb⟩
theorem One7.app2 {W : World} {Z : Nat} {T : TypeId} {cs : Array Value} {v : Value} {l : List Fld} {x : World} (h : One7 W Z T cs v l x) (j : Nat) (fn fc fs fv : ByteArray) (fg : Bool) (hj : cs[j]? = some v) (hl : l.length + 1 ≤ 1048576) :
    ∃ g c y, (Builtin.append_ #[42, 42] 42 #[v, .slice (some ⟨x.heap.size, 0, none⟩) 1 1]).run Tryz.prog (x.alloc (.cells #[.string fn, .string fc, .string fs, .string fv, .bool fg] 59)) = .ok (.slice (some ⟨g, 0, none⟩) (l.length + 1) c) y ∧
      One7 W Z T (cs.setIfInBounds j (.slice (some ⟨g, 0, none⟩) (l.length + 1) c)) (.slice (some ⟨g, 0, none⟩) (l.length + 1) c) (l ++ [⟨fn, fc, fs, fv, fg⟩]) (y.setCell ⟨Z, j, none⟩ (.slice (some ⟨g, 0, none⟩) (l.length + 1) c)) ∧ y.cell? ⟨Z, j, none⟩ = some v ∧ y.frozen? ⟨Z, j, none⟩ = false ∧ Below W.heap.size W y ∧ (x.alloc (.cells #[.string fn, .string fc, .string fs, .string fv, .bool fg] 59)).grownBy y v.ownBlock := by
  obtain ⟨g, c, y, h1, h2, h3, h4⟩ := app_fld x W.heap.size v l h.own fn fc fs fv fg hl h.bel.size
  have hb : Bxs y Z T cs := (h.box.alloc _).grown h3 (Ne.symm (ownR_ne h.own h.box h.hT))
  have hB : Below W.heap.size W y := (h.bel.alloc h.bel.size _).grown h3 (by have := h.bel.size; rw [szA]; omega) (fun j hj => (h.own.lt j hj).1)
  refine ⟨g, c, y, h1, ⟨hB.setCell h.hZ _, h.hZ, h.hT, hb.set j _, ownsRow_setCell_other h2 (ownR_ne h2 hb h.hT) _⟩, ?_, hb.fr j, hB, h3⟩
  rw [hb.cell j]; exact hj
theorem One7.app {W : World} {Z : Nat} {T : TypeId} {cs : Array Value} {v : Value} {l : List Fld} {x : World} (h : One7 W Z T cs v l x) (j : Nat) (fn fc fs fv : ByteArray) (fg : Bool) (hj : cs[j]? = some v) (hl : l.length + 1 ≤ 1048576) :
    ∃ g c y, (Builtin.append_ #[42, 42] 42 #[v, .slice (some ⟨x.heap.size, 0, none⟩) 1 1]).run Tryz.prog (x.alloc (.cells #[.string fn, .string fc, .string fs, .string fv, .bool fg] 59)) = .ok (.slice (some ⟨g, 0, none⟩) (l.length + 1) c) y ∧
      One7 W Z T (cs.setIfInBounds j (.slice (some ⟨g, 0, none⟩) (l.length + 1) c)) (.slice (some ⟨g, 0, none⟩) (l.length + 1) c) (l ++ [⟨fn, fc, fs, fv, fg⟩]) (y.setCell ⟨Z, j, none⟩ (.slice (some ⟨g, 0, none⟩) (l.length + 1) c)) ∧ y.cell? ⟨Z, j, none⟩ = some v ∧ y.frozen? ⟨Z, j, none⟩ = false ∧ Below W.heap.size W y := by
  obtain ⟨g, c, y, h1, h2, h3, h4, h5, -⟩ := h.app2 j fn fc fs fv fg hj hl
  exact ⟨g, c, y, h1, h2, h3, h4, h5⟩
end Go.Proofs.YtnomkcbcjaagmabGreatDoor
/-
  What RowOf answers, as plain functions; the boxes of a row that is put together.
-/
namespace Go.Proofs.YtnomkcbcjaagmabGreatDoor
open Go.RowKit Go.Lib
set_option linter.unusedVariables false
set_option maxRecDepth 20000

/-! ### What RowOf answers -/
def rfAt (ns ss vs : List ByteArray) (i : Nat) : Fld := ⟨ns.getD i ByteArray.empty, cmB (ns.getD i ByteArray.empty) (ss.getD i ByteArray.empty) (vs.getD i ByteArray.empty), ss.getD i ByteArray.empty, vs.getD i ByteArray.empty, false⟩
def rfTo (ns ss vs : List ByteArray) (k : Nat) : List Fld := (List.range k).map (rfAt ns ss vs)
theorem rfTo_len (ns ss vs : List ByteArray) (k : Nat) : (rfTo ns ss vs k).length = k := by simp [rfTo]
theorem rfTo_succ (ns ss vs : List ByteArray) (k : Nat) : rfTo ns ss vs (k + 1) = rfTo ns ss vs k ++ [rfAt ns ss vs k] := by simp [rfTo, List.range_succ]
def roBig (k : ByteArray) (ns ss vs : List ByteArray) : Prop := 8000 < k.size ∨ 400 < ns.length ∨ 400 < ss.length ∨ 400 < vs.length
def roOdd (ns ss vs : List ByteArray) : Prop := ss.length ≠ ns.length ∨ vs.length ≠ ns.length ∨ 3 < ns.length
instance (k : ByteArray) (ns ss vs : List ByteArray) : Decidable (roBig k ns ss vs) := by unfold roBig; infer_instance
instance (ns ss vs : List ByteArray) : Decidable (roOdd ns ss vs) := by unfold roOdd; infer_instance
def roC (k : ByteArray) (at_ : Int) (ns ss vs : List ByteArray) : Int := if roBig k ns ss vs then 2 else if roOdd ns ss vs then 1 else if rwB k at_ (rfTo ns ss vs ns.length) = true then 0 else 1
def roK (k : ByteArray) (at_ : Int) (ns ss vs : List ByteArray) : ByteArray := if roC k at_ ns ss vs = 0 then k else ByteArray.empty
def roA (k : ByteArray) (at_ : Int) (ns ss vs : List ByteArray) : Int := if roC k at_ ns ss vs = 0 then at_ else 0
def roF (k : ByteArray) (at_ : Int) (ns ss vs : List ByteArray) : List Fld := if roC k at_ ns ss vs = 0 then rfTo ns ss vs ns.length else []
/-- A result's box, a row's box, the row of fields that the call owns. -/
structure RoS (w : World) (k : ByteArray) (at_ : Int) (v : Value) (l : List Fld) (x : World) : Prop where
  bel : Below w.heap.size w x
  res : Bxs x w.heap.size 61 #[.string ByteArray.empty, .int .i64 0, .slice none 0 0, .int .i64 0]
  box : Bxs x (w.heap.size + 1) 44 #[.string k, .int .i64 at_, v]
  own : x.ownsRow w.heap.size 59 5 v l.length (fldRow l)
theorem ownF_ne {w : World} {base g : Nat} {e T : TypeId} {s : Nat} {v : Value} {n : Nat} {xs : List Value} {cs : Array Value} (h : w.ownsRow base e s v n xs) (hb : Bxs w g T cs) (hne : T ≠ e) : v.ownBlock ≠ some g := by
  intro he
  rcases h.2 with ⟨rfl, _⟩ | ⟨g', cap, cur, rfl, _, hg', _⟩
  · cases he
  · have : g' = g := by simpa [Value.ownBlock] using he
    subst this
    unfold Bxs at hb
    rw [hb] at hg'
    injection hg' with h1
    injection h1 with h2 h3
    exact hne h3
theorem RoS.below {w : World} {k : ByteArray} {at_ : Int} {v : Value} {l : List Fld} {x y : World} (h : RoS w k at_ v l x) (hb : Below x.heap.size x y) : RoS w k at_ v l y := ⟨chainB h.bel hb, h.res.below hb, h.box.below hb, ownS_below h.own hb⟩
theorem RoS.append {w : World} {k : ByteArray} {at_ : Int} {v v2 : Value} {l l2 : List Fld} {x x6 : World} (h : RoS w k at_ v l x) (o : Obj) (hg : (x.alloc o).grownBy x6 v.ownBlock) (ho : x6.ownsRow w.heap.size 59 5 v2 l2.length (fldRow l2)) :
    RoS w k at_ v2 l2 (x6.setCell ⟨w.heap.size + 1, 2, none⟩ v2) ∧ x6.cell? ⟨w.heap.size + 1, 2, none⟩ = some v ∧ x6.frozen? ⟨w.heap.size + 1, 2, none⟩ = false ∧ Below w.heap.size w x6 := by
  have n1 := ownF_ne h.own h.box (by decide)
  have n2 := ownF_ne h.own h.res (by decide)
  have hb : Bxs x6 (w.heap.size + 1) 44 #[.string k, .int .i64 at_, v] := (h.box.alloc o).grown hg (Ne.symm n1)
  have hr : Bxs x6 w.heap.size 61 #[.string ByteArray.empty, .int .i64 0, .slice none 0 0, .int .i64 0] := (h.res.alloc o).grown hg (Ne.symm n2)
  have hB : Below w.heap.size w x6 := (h.bel.alloc h.bel.size o).grown hg (by have := h.bel.size; simp; omega) (fun j hj => by
    rcases h.own.2 with ⟨rfl, _⟩ | ⟨g', cap, cur, rfl, hge, _⟩
    · cases hj
    · simp [Value.ownBlock] at hj; omega)
  refine ⟨⟨hB.setCell (by show _ ≤ w.heap.size + 1; omega) _, hr.other _ _ (by omega) _, ?_, ownsRow_setCell_other ho (by have := ownF_ne ho hb (by decide); simpa using this) _⟩, hb.cell 2, hb.fr 2, hB⟩
  exact hb.set 2 v2
theorem RoS.done {w : World} {k : ByteArray} {at_ : Int} {v : Value} {l : List Fld} {x : World} (h : RoS w k at_ v l x) (x0 x1 x2 x3 : Value) : ((((x.setCell ⟨w.heap.size, 0, none⟩ x0).setCell ⟨w.heap.size, 1, none⟩ x1).setCell ⟨w.heap.size, 2, none⟩ x2).setCell ⟨w.heap.size, 3, none⟩ x3).ownsRow w.heap.size 59 5 v l.length (fldRow l) ∧ Below w.heap.size w ((((x.setCell ⟨w.heap.size, 0, none⟩ x0).setCell ⟨w.heap.size, 1, none⟩ x1).setCell ⟨w.heap.size, 2, none⟩ x2).setCell ⟨w.heap.size, 3, none⟩ x3) := by
  have n2 : v.ownBlock ≠ some w.heap.size := ownF_ne h.own h.res (by decide)
  exact ⟨ownsRow_setCell_other (ownsRow_setCell_other (ownsRow_setCell_other (ownsRow_setCell_other h.own n2 _) n2 _) n2 _) n2 _, below_set4 h.bel (Nat.le_refl _) _ _ _ _⟩
theorem rfTo_le {ns ss vs : List ByteArray} (z1 : ∀ x ∈ ns, x.size ≤ maxLen) (z2 : ∀ x ∈ ss, x.size ≤ maxLen) (z3 : ∀ x ∈ vs, x.size ≤ maxLen) (k : Nat) : FldsLe (rfTo ns ss vs k) := by
  have hg : ∀ (l : List ByteArray) (j : Nat), (∀ x ∈ l, x.size ≤ maxLen) → (l.getD j ByteArray.empty).size ≤ maxLen := fun l j h => by
    by_cases hj : j < l.length
    · rw [List.getD_eq_getElem?_getD, List.getElem?_eq_getElem hj]; exact h _ (List.getElem_mem hj)
    · rw [List.getD_eq_getElem?_getD, List.getElem?_eq_none (by omega)]; exact Nat.zero_le _
  intro f hf
  obtain ⟨j, -, rfl⟩ := List.mem_map.1 hf
  exact ⟨hg ns j z1, Nat.le_trans (cmB_size _ _ _) (by unfold maxLen; omega), hg ss j z2, hg vs j z3⟩
theorem getD_at {l : List ByteArray} {i : Nat} (h : i < l.length) : l.getD i ByteArray.empty = l[i] := by rw [List.getD_eq_getElem?_getD, List.getElem?_eq_getElem h]; rfl
end Go.Proofs.YtnomkcbcjaagmabGreatDoor
