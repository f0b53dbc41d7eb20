/-
  Parts of one proof, laid as one text: FldG, OneK; what each says stands at its head.
-/
import Derived.Test.YtnomkcbcjaagmabDoorRows
import Derived.Test.YtnomkcbcjaagmabDoorBytes
import Derived.Test.YtnomkcbcjaagmabDoorSlASlBOwnS
import Derived.Test.YtnomkcbcjaagmabDoorBxKGrKTakes
import Derived.Test.YtnomkcbcjaagmabDoorFldMath
import Derived.Handy
import Derived.OwnWalk
import Derived.Test.YtnomkcbcjaagmabDoorShwK
import Derived.Deep.AppendLies
/-
  What forgetting leaves, as plain functions; a field put into a row of fields of one's own.
-/
namespace Go.Proofs.YtnomkcbcjaagmabDoor
open Go.RowKit Go.Lib
set_option linter.unusedVariables false

theorem fldRow_set : ∀ (fs : List Fld) (i : Nat) (f : Fld), (((((fldRow fs).set (i * 5) (.string f.n)).set (i * 5 + 1) (.string f.c)).set (i * 5 + 2) (.string f.s)).set (i * 5 + 3) (.string f.v)).set (i * 5 + 4) (.bool f.g) = fldRow (fs.set i f)
  | [], i, f => by simp [fldRow]
  | g :: fs, 0, f => rfl
  | g :: fs, i + 1, f => by
    have ih := fldRow_set fs i f
    rw [show (i + 1) * 5 = i * 5 + 5 by omega, show i * 5 + 5 + 1 = i * 5 + 1 + 5 by omega, show i * 5 + 5 + 2 = i * 5 + 2 + 5 by omega, show i * 5 + 5 + 3 = i * 5 + 3 + 5 by omega, show i * 5 + 5 + 4 = i * 5 + 4 + 5 by omega]
    show .string g.n :: .string g.c :: .string g.s :: .string g.v :: .bool g.g :: _ = .string g.n :: .string g.c :: .string g.s :: .string g.v :: .bool g.g :: fldRow (fs.set i f)
    rw [← ih]; rfl
def set5 (w : World) (g o : Nat) (f : Fld) : World := ((((w.setCell ⟨g, o, none⟩ (.string f.n)).setCell ⟨g, o + 1, none⟩ (.string f.c)).setCell ⟨g, o + 2, none⟩ (.string f.s)).setCell ⟨g, o + 3, none⟩ (.string f.v)).setCell ⟨g, o + 4, none⟩ (.bool f.g)
theorem own_set5 {w : World} {base b n cc : Nat} {fs : List Fld} (h : w.ownsRow base 26 5 (.slice (some ⟨b, 0, none⟩) n cc) n (fldRow fs)) (i : Nat) (f : Fld) : (set5 w b (i * 5) f).ownsRow base 26 5 (.slice (some ⟨b, 0, none⟩) n cc) n (fldRow (fs.set i f)) := by
  have h1 := (h.stored (i * 5) (.string f.n)).1
  have h2 := (h1.stored (i * 5 + 1) (.string f.c)).1
  have h3 := (h2.stored (i * 5 + 2) (.string f.s)).1
  have h4 := (h3.stored (i * 5 + 3) (.string f.v)).1
  have h5 := (h4.stored (i * 5 + 4) (.bool f.g)).1
  rw [fldRow_set] at h5
  exact h5
theorem set5_other {w : World} {g b o : Nat} {T : TypeId} {cs : Array Value} (h : Bxs w g T cs) (hne : b ≠ g) (f : Fld) : Bxs (set5 w b o f) g T cs := ((((h.other b _ hne _).other b _ hne _).other b _ hne _).other b _ hne _).other b _ hne _
theorem set5_below {B : Nat} {a w : World} (h : Below B a w) {g : Nat} (hg : B ≤ g) (o : Nat) (f : Fld) : Below B a (set5 w g o f) := ((((h.setCell hg _).setCell hg _).setCell hg _).setCell hg _).setCell hg _
/-! ### What Forget answers -/
def fldD : Fld := ⟨ByteArray.empty, ByteArray.empty, ByteArray.empty, ByteArray.empty, false⟩
def fgC (k : ByteArray) (at_ : Int) (fs : List Fld) (i : Int) : Int := if rwB k at_ fs = true then (if 0 ≤ i ∧ i ≤ (fs.length : Int) - 1 then (if (fs.getD i.toNat fldD).g = true then 7 else 0) else 6) else 1
def fgK (k : ByteArray) (at_ : Int) (fs : List Fld) (i : Int) : ByteArray := if fgC k at_ fs i = 0 then k else ByteArray.empty
def fgA (k : ByteArray) (at_ : Int) (fs : List Fld) (i : Int) : Int := if fgC k at_ fs i = 0 then at_ else 0
def fgF (k : ByteArray) (at_ : Int) (fs : List Fld) (i : Int) : List Fld := if fgC k at_ fs i = 0 then fs.set i.toNat (goneF (fs.getD i.toNat fldD)) else []
end Go.Proofs.YtnomkcbcjaagmabDoor
/-
  A field put behind a row of fields of one's own; a box with such a row.
-/
namespace Go.Proofs.YtnomkcbcjaagmabDoor
open Go.RowKit Go.Lib
set_option linter.unusedVariables false

theorem infoFld : (Tryd.prog.info? 26).map (fun i => (i.zero, i.size, i.bytes)) = some (some (.agg #[.string ByteArray.empty, .string ByteArray.empty, .string ByteArray.empty, .string ByteArray.empty, .bool false]), 5, 72) := by kernel_rfl
theorem app_fld (w : World) (base : Nat) (v : Value) (l : List Fld) (own : w.ownsRow base 26 5 v l.length (fldRow l)) (fn fc fs fv : ByteArray) (fg : Bool) (hl : l.length + 1 ≤ 1048576) (hbase : base ≤ w.heap.size) :
    ∃ g c w', (Builtin.append_ #[31, 31] 31 #[v, .slice (some ⟨w.heap.size, 0, none⟩) 1 1]).run Tryd.prog (w.alloc (.cells #[.string fn, .string fc, .string fs, .string fv, .bool fg] 26)) = .ok (.slice (some ⟨g, 0, none⟩) (l.length + 1) c) w' ∧
      w'.ownsRow base 26 5 (.slice (some ⟨g, 0, none⟩) (l.length + 1) c) (l ++ [(⟨fn, fc, fs, fv, fg⟩ : Fld)]).length (fldRow (l ++ [(⟨fn, fc, fs, fv, fg⟩ : Fld)])) ∧ (w.alloc (.cells #[.string fn, .string fc, .string fs, .string fv, .bool fg] 26)).grownBy w' v.ownBlock ∧ (v.ownBlock = some g ∨ g = w.heap.size + 1) := by
  obtain ⟨i0, hi, hz0, hz1, hz2⟩ := info_parts infoFld
  obtain ⟨g, c, w', h1, h2, h3, h4, _⟩ := run_append_lies (P := Tryd.prog) (w.alloc (.cells #[.string fn, .string fc, .string fs, .string fv, .bool fg] 26)) 31 31 base 26 i0 _ 5 72 Tryd.underlying31 hi hz0 hz1 hz2 rfl (by omega) v l.length (fldRow l) (own.alloc _) ⟨w.heap.size, 0, none⟩ 1 1 (fldRow [(⟨fn, fc, fs, fv, fg⟩ : Fld)]) rfl (fun j u hu => by
      have hj : j < 5 := by
        rcases Nat.lt_or_ge j 5 with q | q
        · exact q
        · rw [List.getElem?_eq_none (by rw [fldRow_len]; exact q)] at hu; cases hu
      have hadd : (⟨w.heap.size, 0, none⟩ : Addr).add j = ⟨w.heap.size, 0 + j, none⟩ := by unfold Addr.add; split <;> simp_all
      rw [hadd, Nat.zero_add, World.cell?_alloc_mark]
      match j, hj with
      | 0, _ => exact hu
      | 1, _ => exact hu
      | 2, _ => exact hu
      | 3, _ => exact hu
      | 4, _ => exact hu) (fun u hu => by
      simp [fldRow, fldCells] at hu
      rcases hu with rfl | rfl | rfl | rfl | rfl <;> rfl) (by omega) (by unfold maxLen; omega) (by omega) (by simp; omega) (w.heap.size + 1) (by simp)
  refine ⟨g, c, w', h1, ?_, h3, h4⟩
  have e1 : (l ++ [(⟨fn, fc, fs, fv, fg⟩ : Fld)]).length = l.length + 1 := by simp
  rw [e1, fldRow_append]; exact h2
/-- A box with one row of fields of its own. -/
structure One7 (W : World) (Z : Nat) (T : TypeId) (cs : Array Value) (v : Value) (l : List Fld) (x : World) : Prop where
  bel : Below W.heap.size W x
  hZ : W.heap.size ≤ Z
  hT : T ≠ 26
  box : Bxs x Z T cs
  own : x.ownsRow W.heap.size 26 5 v l.length (fldRow l)
theorem One7.below {W : World} {Z : Nat} {T : TypeId} {cs : Array Value} {v : Value} {l : List Fld} {x y : World} (h : One7 W Z T cs v l x) (hb : Below x.heap.size x y) : One7 W Z T cs v l y := ⟨chainB h.bel hb, h.hZ, h.hT, h.box.below hb, ownS_below h.own hb⟩
theorem One7.app2 {W : World} {Z : Nat} {T : TypeId} {cs : Array Value} {v : Value} {l : List Fld} {x : World} (h : One7 W Z T cs v l x) (j : Nat) (fn fc fs fv : ByteArray) (fg : Bool) (hj : cs[j]? = some v) (hl : l.length + 1 ≤ 1048576) :
    ∃ g c y, (Builtin.append_ #[31, 31] 31 #[v, .slice (some ⟨x.heap.size, 0, none⟩) 1 1]).run Tryd.prog (x.alloc (.cells #[.string fn, .string fc, .string fs, .string fv, .bool fg] 26)) = .ok (.slice (some ⟨g, 0, none⟩) (l.length + 1) c) y ∧
      One7 W Z T (cs.setIfInBounds j (.slice (some ⟨g, 0, none⟩) (l.length + 1) c)) (.slice (some ⟨g, 0, none⟩) (l.length + 1) c) (l ++ [⟨fn, fc, fs, fv, fg⟩]) (y.setCell ⟨Z, j, none⟩ (.slice (some ⟨g, 0, none⟩) (l.length + 1) c)) ∧ y.cell? ⟨Z, j, none⟩ = some v ∧ y.frozen? ⟨Z, j, none⟩ = false ∧ Below W.heap.size W y ∧ (x.alloc (.cells #[.string fn, .string fc, .string fs, .string fv, .bool fg] 26)).grownBy y v.ownBlock := by
  obtain ⟨g, c, y, h1, h2, h3, h4⟩ := app_fld x W.heap.size v l h.own fn fc fs fv fg hl h.bel.size
  have hb : Bxs y Z T cs := (h.box.alloc _).grown h3 (Ne.symm (ownR_ne h.own h.box h.hT))
  have hB : Below W.heap.size W y := (h.bel.alloc h.bel.size _).grown h3 (by have := h.bel.size; rw [szA]; omega) (fun j hj => (h.own.lt j hj).1)
  refine ⟨g, c, y, h1, ⟨hB.setCell h.hZ _, h.hZ, h.hT, hb.set j _, ownsRow_setCell_other h2 (ownR_ne h2 hb h.hT) _⟩, ?_, hb.fr j, hB, h3⟩
  rw [hb.cell j]; exact hj
theorem One7.app {W : World} {Z : Nat} {T : TypeId} {cs : Array Value} {v : Value} {l : List Fld} {x : World} (h : One7 W Z T cs v l x) (j : Nat) (fn fc fs fv : ByteArray) (fg : Bool) (hj : cs[j]? = some v) (hl : l.length + 1 ≤ 1048576) :
    ∃ g c y, (Builtin.append_ #[31, 31] 31 #[v, .slice (some ⟨x.heap.size, 0, none⟩) 1 1]).run Tryd.prog (x.alloc (.cells #[.string fn, .string fc, .string fs, .string fv, .bool fg] 26)) = .ok (.slice (some ⟨g, 0, none⟩) (l.length + 1) c) y ∧
      One7 W Z T (cs.setIfInBounds j (.slice (some ⟨g, 0, none⟩) (l.length + 1) c)) (.slice (some ⟨g, 0, none⟩) (l.length + 1) c) (l ++ [⟨fn, fc, fs, fv, fg⟩]) (y.setCell ⟨Z, j, none⟩ (.slice (some ⟨g, 0, none⟩) (l.length + 1) c)) ∧ y.cell? ⟨Z, j, none⟩ = some v ∧ y.frozen? ⟨Z, j, none⟩ = false ∧ Below W.heap.size W y := by
  obtain ⟨g, c, y, h1, h2, h3, h4, h5, -⟩ := h.app2 j fn fc fs fv fg hj hl
  exact ⟨g, c, y, h1, h2, h3, h4, h5⟩
end Go.Proofs.YtnomkcbcjaagmabDoor
