/-
  Parts of one proof, laid as one text: LawSX, OneK, FldBlk, LawF, LawFM; what each says stands at its head.
-/
import Derived.Test.YthkmeneepkaedaaGreatDoorRows
import Derived.Test.YthkmeneepkaedaaGreatDoorBytesDigMath
import Derived.Test.YthkmeneepkaedaaGreatDoorTreeMathSlASlBBxKOwnS
import Derived.Test.YthkmeneepkaedaaGreatDoorFldGShwKFldHTakesAudMathLawAuOpAuFldRiseScanMath
import Derived.Test.YthkmeneepkaedaaGreatDoorLgAtKLgAnsLawSLawMLawMGLawPfLawSG
import Derived.Test.YthkmeneepkaedaaGreatDoorLawSh
import Derived.Handy
import Derived.OwnWalk
import Derived.Laws.OwnMore
import Derived.Test.YthkmeneepkaedaaGreatDoorTimeBPutMathPutNumJoinedPutTextFldMath
import Derived.Deep.AppendLies
import Derived.WalkSpells
import Derived.Deep.RegionLaw
import Derived.Deep.RegionWith
/-
  Two rows of texts of one's own in a Shown: what they read, what leaves them as they were, what marks leave.
-/
namespace Go.Proofs.YthkmeneepkaedaaGreatDoor
open Go.RowKit Go.Lib
set_option linter.unusedVariables false

/-- Two rows of texts of its own, apart. -/
def Sh2 (base : Nat) (p : Option Addr) (c : Nat) (ns : List ByteArray) (q : Option Addr) (d : Nat) (cs : List ByteArray) (w : World) : Prop :=
  w.ownsRow base 9 1 (.slice p ns.length c) ns.length (strRow ns) ∧ w.ownsRow base 9 1 (.slice q cs.length d) cs.length (strRow cs) ∧ ∀ g, (Value.slice p ns.length c).ownBlock = some g → (Value.slice q cs.length d).ownBlock ≠ some g
/-- One of the two rows' blocks. -/
def Bl2 (p : Option Addr) (c n : Nat) (q : Option Addr) (d m : Nat) (j : Nat) : Prop := (Value.slice p n c).ownBlock = some j ∨ (Value.slice q m d).ownBlock = some j
section
variable {base : Nat} {p : Option Addr} {c : Nat} {ns : List ByteArray} {q : Option Addr} {d : Nat} {cs : List ByteArray} {w w' : World}
theorem Sh2.below (h : Sh2 base p c ns q d cs w) (hb : Below w.heap.size w w') : Sh2 base p c ns q d cs w' := ⟨ownS_below h.1 hb, ownS_below h.2.1 hb, h.2.2⟩
theorem Sh2.alloc (h : Sh2 base p c ns q d cs w) (o : Obj) : Sh2 base p c ns q d cs (w.alloc o) := ⟨h.1.alloc _, h.2.1.alloc _, h.2.2⟩
theorem Sh2.lt2 (h : Sh2 base p c ns q d cs w) (j : Nat) (hj : Bl2 p c ns.length q d cs.length j) : base ≤ j ∧ j < w.heap.size := by
  rcases hj with hj | hj
  · exact h.1.lt j hj
  · exact h.2.1.lt j hj
theorem keepS {base : Nat} {e : TypeId} {s : Nat} {v : Value} {n : Nat} {xs : List Value} {row : Option Nat} (h : w.ownsRow base e s v n xs) (g : w.grownBy w' row) (hn : ∀ j, row = some j → v.ownBlock ≠ some j) : w'.ownsRow base e s v n xs :=
  h.kept g (by
    cases hv : v.ownBlock with
    | none => exact .inl rfl
    | some j => exact .inr (fun e => hn j e.symm hv))
theorem Sh2.keep {row : Option Nat} (h : Sh2 base p c ns q d cs w) (g : w.grownBy w' row) (hn : ∀ j, row = some j → ¬ Bl2 p c ns.length q d cs.length j) : Sh2 base p c ns q d cs w' :=
  ⟨keepS h.1 g (fun j hj e => hn j hj (.inl e)), keepS h.2.1 g (fun j hj e => hn j hj (.inr e)), h.2.2⟩
theorem Sh2.ne (h : Sh2 base p c ns q d cs w) : (Value.slice q cs.length d).ownBlock = none ∨ (Value.slice q cs.length d).ownBlock ≠ (Value.slice p ns.length c).ownBlock := by
  cases hq : (Value.slice q cs.length d).ownBlock with
  | none => exact .inl rfl
  | some j => exact .inr (fun e => h.2.2 j e.symm hq)
theorem Sh2.txt (h : Sh2 base p c ns q d cs w) : (TxtAt w p ns ∧ TxtAt w q cs) ∧ ns.length ≤ c ∧ cs.length ≤ d := by
  obtain ⟨p', c', e1, h1, h2⟩ := ownS_form h.1
  obtain ⟨q', d', e2, h3, h4⟩ := ownS_form h.2.1
  cases e1; cases e2
  exact ⟨⟨h2, h4⟩, h1, h3⟩
theorem Sh2.of {o : Shw} {v1 v2 : Value} (h : ShwO base o v1 v2 w) : ∃ p c q d, v1 = .slice p o.ns.length c ∧ v2 = .slice q o.cs.length d ∧ Sh2 base p c o.ns q d o.cs w := by
  obtain ⟨p, c, rfl, -, -⟩ := ownS_form h.1
  obtain ⟨q, d, rfl, -, -⟩ := ownS_form h.2.1
  exact ⟨p, c, q, d, rfl, rfl, h⟩
theorem marksN_len (s n : Nat) : (marksN s n).length = n := by simp [marksN]
theorem ownS_marks {s n : Nat} (h : w.ownsRow base 9 1 (.slice p n c) n (strRow (marksN s n))) : TxtAt w p (marksN s n) := by
  have h' : w.ownsRow base 9 1 (.slice p (marksN s n).length c) (marksN s n).length (strRow (marksN s n)) := by rw [marksN_len]; exact h
  obtain ⟨p', c', e1, h1, h2⟩ := ownS_form h'
  cases e1
  exact h2
end
end Go.Proofs.YthkmeneepkaedaaGreatDoor
/-
  A field put behind a row of fields of one's own; a box with such a row.
-/
namespace Go.Proofs.YthkmeneepkaedaaGreatDoor
open Go.RowKit Go.Lib
set_option linter.unusedVariables false

theorem infoFld : (Tryz.prog.info? 66).map (fun i => (i.zero, i.size, i.bytes)) = some (some (.agg #[.string ByteArray.empty, .string ByteArray.empty, .string ByteArray.empty, .string ByteArray.empty, .bool false]), 5, 72) := by kernel_rfl
theorem app_fld (w : World) (base : Nat) (v : Value) (l : List Fld) (own : w.ownsRow base 66 5 v l.length (fldRow l)) (fn fc fs fv : ByteArray) (fg : Bool) (hl : l.length + 1 ≤ 1048576) (hbase : base ≤ w.heap.size) :
    ∃ g c w', (Builtin.append_ #[62, 62] 62 #[v, .slice (some ⟨w.heap.size, 0, none⟩) 1 1]).run Tryz.prog (w.alloc (.cells #[.string fn, .string fc, .string fs, .string fv, .bool fg] 66)) = .ok (.slice (some ⟨g, 0, none⟩) (l.length + 1) c) w' ∧
      w'.ownsRow base 66 5 (.slice (some ⟨g, 0, none⟩) (l.length + 1) c) (l ++ [(⟨fn, fc, fs, fv, fg⟩ : Fld)]).length (fldRow (l ++ [(⟨fn, fc, fs, fv, fg⟩ : Fld)])) ∧ (w.alloc (.cells #[.string fn, .string fc, .string fs, .string fv, .bool fg] 66)).grownBy w' v.ownBlock ∧ (v.ownBlock = some g ∨ g = w.heap.size + 1) := by
  obtain ⟨i0, hi, hz0, hz1, hz2⟩ := info_parts infoFld
  obtain ⟨g, c, w', h1, h2, h3, h4, _⟩ := run_append_lies (P := Tryz.prog) (w.alloc (.cells #[.string fn, .string fc, .string fs, .string fv, .bool fg] 66)) 62 62 base 66 i0 _ 5 72 Tryz.underlying62 hi hz0 hz1 hz2 rfl (by omega) v l.length (fldRow l) (own.alloc _) ⟨w.heap.size, 0, none⟩ 1 1 (fldRow [(⟨fn, fc, fs, fv, fg⟩ : Fld)]) rfl (fun j u hu => by
      have hj : j < 5 := by
        rcases Nat.lt_or_ge j 5 with q | q
        · exact q
        · rw [List.getElem?_eq_none (by rw [fldRow_len]; exact q)] at hu; cases hu
      have hadd : (⟨w.heap.size, 0, none⟩ : Addr).add j = ⟨w.heap.size, 0 + j, none⟩ := by unfold Addr.add; split <;> simp_all
      rw [hadd, Nat.zero_add, World.cell?_alloc_mark]
      match j, hj with
      | 0, _ => exact hu
      | 1, _ => exact hu
      | 2, _ => exact hu
      | 3, _ => exact hu
      | 4, _ => exact hu) (fun u hu => by
      simp [fldRow, fldCells] at hu
      rcases hu with rfl | rfl | rfl | rfl | rfl <;> rfl) (by omega) (by unfold maxLen; omega) (by omega) (by simp; omega) (w.heap.size + 1) (by simp)
  refine ⟨g, c, w', h1, ?_, h3, h4⟩
  have e1 : (l ++ [(⟨fn, fc, fs, fv, fg⟩ : Fld)]).length = l.length + 1 := by simp
  rw [e1, fldRow_append]; exact h2
/-- A box with one row of fields of its own. -/
structure One7 (W : World) (Z : Nat) (T : TypeId) (cs : Array Value) (v : Value) (l : List Fld) (x : World) : Prop where
  bel : Below W.heap.size W x
  hZ : W.heap.size ≤ Z
  hT : T ≠ 66
  box : Bxs x Z T cs
  own : x.ownsRow W.heap.size 66 5 v l.length (fldRow l)
theorem One7.below {W : World} {Z : Nat} {T : TypeId} {cs : Array Value} {v : Value} {l : List Fld} {x y : World} (h : One7 W Z T cs v l x) (hb : Below x.heap.size x y) : One7 W Z T cs v l y := ⟨chainB h.bel hb, h.hZ, h.hT, h.box.below hb, ownS_below h.own hb⟩
theorem One7.app2 {W : World} {Z : Nat} {T : TypeId} {cs : Array Value} {v : Value} {l : List Fld} {x : World} (h : One7 W Z T cs v l x) (j : Nat) (fn fc fs fv : ByteArray) (fg : Bool) (hj : cs[j]? = some v) (hl : l.length + 1 ≤ 1048576) :
    ∃ g c y, (Builtin.append_ #[62, 62] 62 #[v, .slice (some ⟨x.heap.size, 0, none⟩) 1 1]).run Tryz.prog (x.alloc (.cells #[.string fn, .string fc, .string fs, .string fv, .bool fg] 66)) = .ok (.slice (some ⟨g, 0, none⟩) (l.length + 1) c) y ∧
      One7 W Z T (cs.setIfInBounds j (.slice (some ⟨g, 0, none⟩) (l.length + 1) c)) (.slice (some ⟨g, 0, none⟩) (l.length + 1) c) (l ++ [⟨fn, fc, fs, fv, fg⟩]) (y.setCell ⟨Z, j, none⟩ (.slice (some ⟨g, 0, none⟩) (l.length + 1) c)) ∧ y.cell? ⟨Z, j, none⟩ = some v ∧ y.frozen? ⟨Z, j, none⟩ = false ∧ Below W.heap.size W y ∧ (x.alloc (.cells #[.string fn, .string fc, .string fs, .string fv, .bool fg] 66)).grownBy y v.ownBlock := by
  obtain ⟨g, c, y, h1, h2, h3, h4⟩ := app_fld x W.heap.size v l h.own fn fc fs fv fg hl h.bel.size
  have hb : Bxs y Z T cs := (h.box.alloc _).grown h3 (Ne.symm (ownR_ne h.own h.box h.hT))
  have hB : Below W.heap.size W y := (h.bel.alloc h.bel.size _).grown h3 (by have := h.bel.size; rw [szA]; omega) (fun j hj => (h.own.lt j hj).1)
  refine ⟨g, c, y, h1, ⟨hB.setCell h.hZ _, h.hZ, h.hT, hb.set j _, ownsRow_setCell_other h2 (ownR_ne h2 hb h.hT) _⟩, ?_, hb.fr j, hB, h3⟩
  rw [hb.cell j]; exact hj
theorem One7.app {W : World} {Z : Nat} {T : TypeId} {cs : Array Value} {v : Value} {l : List Fld} {x : World} (h : One7 W Z T cs v l x) (j : Nat) (fn fc fs fv : ByteArray) (fg : Bool) (hj : cs[j]? = some v) (hl : l.length + 1 ≤ 1048576) :
    ∃ g c y, (Builtin.append_ #[62, 62] 62 #[v, .slice (some ⟨x.heap.size, 0, none⟩) 1 1]).run Tryz.prog (x.alloc (.cells #[.string fn, .string fc, .string fs, .string fv, .bool fg] 66)) = .ok (.slice (some ⟨g, 0, none⟩) (l.length + 1) c) y ∧
      One7 W Z T (cs.setIfInBounds j (.slice (some ⟨g, 0, none⟩) (l.length + 1) c)) (.slice (some ⟨g, 0, none⟩) (l.length + 1) c) (l ++ [⟨fn, fc, fs, fv, fg⟩]) (y.setCell ⟨Z, j, none⟩ (.slice (some ⟨g, 0, none⟩) (l.length + 1) c)) ∧ y.cell? ⟨Z, j, none⟩ = some v ∧ y.frozen? ⟨Z, j, none⟩ = false ∧ Below W.heap.size W y := by
  obtain ⟨g, c, y, h1, h2, h3, h4, h5, -⟩ := h.app2 j fn fc fs fv fg hj hl
  exact ⟨g, c, y, h1, h2, h3, h4, h5⟩
theorem getD_at {l : List ByteArray} {i : Nat} (h : i < l.length) : l.getD i ByteArray.empty = l[i] := by rw [List.getD_eq_getElem?_getD, List.getElem?_eq_getElem h]; rfl
end Go.Proofs.YthkmeneepkaedaaGreatDoor
/-
  A block of fields that was made, and is written field by field.
-/
namespace Go.Proofs.YthkmeneepkaedaaGreatDoor
open Go.RowKit Go.Lib
set_option linter.unusedVariables false

def fldE5 : Fld := ⟨ByteArray.empty, ByteArray.empty, ByteArray.empty, ByteArray.empty, false⟩
/-- A block that holds these fields, and nothing else. -/
def BlkF (w : World) (g : Nat) (l : List Fld) : Prop := Bxs w g 66 (fldRow l).toArray
theorem BlkF.below {w w' : World} {g : Nat} {l : List Fld} (h : BlkF w g l) (hb : Below w.heap.size w w') : BlkF w' g l := Bxs.below h hb
theorem BlkF.cells {w : World} {g : Nat} {l : List Fld} (h : BlkF w g l) (i : Nat) (hi : i < l.length) : (w.cell? ⟨g, i * 5, none⟩ = some (.string l[i].n) ∧ w.cell? ⟨g, i * 5 + 1, none⟩ = some (.string l[i].c) ∧ w.cell? ⟨g, i * 5 + 2, none⟩ = some (.string l[i].s) ∧ w.cell? ⟨g, i * 5 + 3, none⟩ = some (.string l[i].v) ∧ w.cell? ⟨g, i * 5 + 4, none⟩ = some (.bool l[i].g)) ∧ w.frozen? ⟨g, i * 5, none⟩ = false ∧ w.frozen? ⟨g, i * 5 + 1, none⟩ = false ∧ w.frozen? ⟨g, i * 5 + 2, none⟩ = false ∧ w.frozen? ⟨g, i * 5 + 3, none⟩ = false ∧ w.frozen? ⟨g, i * 5 + 4, none⟩ = false := by
  have hr := fldRow_at l i hi
  have hc : ∀ j, w.cell? ⟨g, j, none⟩ = (fldRow l)[j]? := fun j => by rw [Bxs.cell h j]; simp
  rw [← hc, ← hc, ← hc, ← hc, ← hc] at hr
  exact ⟨hr, Bxs.fr h _, Bxs.fr h _, Bxs.fr h _, Bxs.fr h _, Bxs.fr h _⟩
theorem BlkF.at {w : World} {g : Nat} {l : List Fld} (h : BlkF w g l) : FldAt w (some ⟨g, 0, none⟩) l := fun i hi => ⟨g, 0, rfl, Bxs.lt h, by rw [Nat.zero_add]; exact (h.cells i hi).1⟩
theorem BlkF.set1 {w : World} {g : Nat} {l : List Value} (h : Bxs w g 66 l.toArray) (j : Nat) (v : Value) : Bxs (w.setCell ⟨g, j, none⟩ v) g 66 (l.set j v).toArray := by
  have h1 := h.set j v
  rwa [List.setIfInBounds_toArray] at h1
theorem BlkF.set5 {w : World} {g : Nat} {l : List Fld} (h : BlkF w g l) (i : Nat) (f : Fld) : BlkF (set5 w g (i * 5) f) g (l.set i f) := by
  unfold BlkF
  rw [← fldRow_set]
  exact BlkF.set1 (BlkF.set1 (BlkF.set1 (BlkF.set1 (BlkF.set1 h _ _) _ _) _ _) _ _) _ _
theorem fldRow_set3 : ∀ (fs : List Fld) (i : Nat) (h : i < fs.length) (s v : ByteArray) (g : Bool), ((((fldRow fs).set (i * 5 + 2) (.string s)).set (i * 5 + 3) (.string v)).set (i * 5 + 4) (.bool g)) = fldRow (fs.set i ⟨fs[i].n, fs[i].c, s, v, g⟩)
  | f :: fs, 0, _, s, v, g => by simp [fldRow, fldCells]
  | f :: fs, i + 1, h, s, v, g => by
    have ih := fldRow_set3 fs i (by simpa using h) s v g
    have e1 : (i + 1) * 5 + 2 = i * 5 + 2 + 5 := by omega
    have e2 : (i + 1) * 5 + 3 = i * 5 + 3 + 5 := by omega
    have e3 : (i + 1) * 5 + 4 = i * 5 + 4 + 5 := by omega
    have e4 : fldRow (f :: fs) = .string f.n :: .string f.c :: .string f.s :: .string f.v :: .bool f.g :: fldRow fs := rfl
    rw [e1, e2, e3, e4]
    simp only [List.set_cons_succ, List.getElem_cons_succ]
    rw [ih]; rfl
theorem BlkF.set3 {w : World} {g : Nat} {l : List Fld} (h : BlkF w g l) (i : Nat) (hi : i < l.length) (s v : ByteArray) (b : Bool) : BlkF (((w.setCell ⟨g, i * 5 + 2, none⟩ (.string s)).setCell ⟨g, i * 5 + 3, none⟩ (.string v)).setCell ⟨g, i * 5 + 4, none⟩ (.bool b)) g (l.set i ⟨l[i].n, l[i].c, s, v, b⟩) := by
  unfold BlkF
  rw [← fldRow_set3 l i hi]
  exact BlkF.set1 (BlkF.set1 (BlkF.set1 h _ _) _ _) _ _
theorem made_fld (n : Nat) : madeCells #[.string ByteArray.empty, .string ByteArray.empty, .string ByteArray.empty, .string ByteArray.empty, .bool false] (n * 5) = (fldRow (List.replicate n fldE5)).toArray := by
  unfold madeCells
  apply Array.ext
  · simp [fldRow_len]
  · intro i h0 h2
    have h1 : i < n * 5 := by simpa using h0
    have hr := fldRow_at (List.replicate n fldE5) (i / 5) (by rw [List.length_replicate]; omega)
    simp only [List.getElem_replicate] at hr
    have hm : i % 5 < 5 := Nat.mod_lt _ (by omega)
    have hd : i = i / 5 * 5 + i % 5 := by omega
    have hl : i < (fldRow (List.replicate n fldE5)).length := by simpa using h2
    have hg : ∀ v, (fldRow (List.replicate n fldE5))[i]? = some v → (fldRow (List.replicate n fldE5)).toArray[i] = v := fun v hv => by
      rw [List.getElem?_eq_getElem hl] at hv
      have := Option.some.inj hv
      simpa using this
    simp only [Array.getElem_map, Array.getElem_range]
    match hq : i % 5, hm with
    | 0, _ => rw [hq] at hd; rw [hg _ (by rw [hd]; exact hr.1)]; simp [fldE5]
    | 1, _ => rw [hq] at hd; rw [hg _ (by rw [hd]; exact hr.2.1)]; simp [fldE5]
    | 2, _ => rw [hq] at hd; rw [hg _ (by rw [hd]; exact hr.2.2.1)]; simp [fldE5]
    | 3, _ => rw [hq] at hd; rw [hg _ (by rw [hd]; exact hr.2.2.2.1)]; simp [fldE5]
    | 4, _ => rw [hq] at hd; rw [hg _ (by rw [hd]; exact hr.2.2.2.2)]; simp [fldE5]
theorem run_make_fld (n : Nat) (hn : n ≤ 1048576) (w : World) :
    (Instr.makeSlice 62 (.int .i64 (n : Int)) (.int .i64 (n : Int))).run Tryz.prog w = .ok (.slice (some ⟨w.heap.size, 0, none⟩) n n) (w.alloc (.cells (fldRow (List.replicate n fldE5)).toArray 66)) := by
  obtain ⟨i0, hi, hz0, hz1, hz2⟩ := info_parts infoFld
  have := run_make (P := Tryz.prog) w 62 66 i0 _ Tryz.underlying62 hi hz0 .i64 .i64 (n : Int) (n : Int) (by omega) (by omega) (by rw [hz2]; omega) (by omega)
  rw [this, hz1]
  simp only [Int.toNat_natCast]
  rw [← made_fld]; rfl
theorem alloc_fld (w : World) (l : List Fld) : BlkF (w.alloc (.cells (fldRow l).toArray 66)) w.heap.size l := (MapKept.heap_alloc w _).1
end Go.Proofs.YthkmeneepkaedaaGreatDoor
/-
  What the laws' own helpers answer for slices of fields: szFieldS, toFieldS (a copy in new memory), eqFieldS (of two that are alike).
  Conditions: the slices' cells hold the fields.
-/
namespace Go.Proofs.YthkmeneepkaedaaGreatDoor
open Go.RowKit Go.Lib
set_option linter.unusedVariables false
set_option maxRecDepth 20000

set_option maxHeartbeats 1000000 in
theorem szFld_any (f : Fld) (l : Int) (w : World) (l0 : 0 ≤ l) (l1 : l ≤ 1048576) (h1 : f.n.size ≤ 9223372036854775807) (h2 : f.c.size ≤ 9223372036854775807) (h3 : f.s.size ≤ 9223372036854775807) (h4 : f.v.size ≤ 9223372036854775807) :
    Calls Tryz.prog 124 #[.agg #[.string f.n, .string f.c, .string f.s, .string f.v, .bool f.g], .int .i64 l] w fun e w' => (∃ r : Int, e = .returned (.int .i64 r) ∧ (r = -1 ∨ (0 ≤ r ∧ r ≤ l))) ∧ Below w.heap.size w w' := by
  obtain ⟨n, c, s, v, g⟩ := f
  show Calls Tryz.prog 124 #[.agg #[.string n, .string c, .string s, .string v, .bool g], .int .i64 l] w _
  have h1 : n.size ≤ 9223372036854775807 := h1
  have h2 : c.size ≤ 9223372036854775807 := h2
  have h3 : s.size ≤ 9223372036854775807 := h3
  have h4 : v.size ≤ 9223372036854775807 := h4
  have B1 : Below w.heap.size w (w.alloc (.cells #[.string n, .string c, .string s, .string v, .bool g] 176)) := (Below.refl _ _).alloc (Nat.le_refl _) _
  by_cases k1 : (n.size : Int) ≤ l
  · by_cases k2 : (n.size : Int) + c.size ≤ l
    · by_cases k3 : (n.size : Int) + c.size + s.size ≤ l
      · by_cases k4 : (n.size : Int) + c.size + s.size + v.size ≤ l
        · go_enter Tryz.func124, Tryz.ntmps124
          go_wp2
          go_ret
          exact ⟨⟨_, rfl, .inr ⟨by omega, by omega⟩⟩, B1⟩
        · go_enter Tryz.func124, Tryz.ntmps124
          go_wp2
          go_ret
          exact ⟨⟨_, rfl, .inl rfl⟩, B1⟩
      · go_enter Tryz.func124, Tryz.ntmps124
        go_wp2
        go_ret
        exact ⟨⟨_, rfl, .inl rfl⟩, B1⟩
    · go_enter Tryz.func124, Tryz.ntmps124
      go_wp2
      go_ret
      exact ⟨⟨_, rfl, .inl rfl⟩, B1⟩
  · go_enter Tryz.func124, Tryz.ntmps124
    go_wp2
    go_ret
    exact ⟨⟨_, rfl, .inl rfl⟩, B1⟩

def FldsBig (fs : List Fld) : Prop := ∀ f ∈ fs, f.n.size ≤ 9223372036854775807 ∧ f.c.size ≤ 9223372036854775807 ∧ f.s.size ≤ 9223372036854775807 ∧ f.v.size ≤ 9223372036854775807
set_option maxHeartbeats 1000000 in
theorem szF_any (l0 : Int) (l00 : 0 ≤ l0) (l01 : l0 ≤ 1048576) (p : Option Addr) (cap : Nat) (fs : List Fld) (w : World) (hp : FldAt w p fs) (hn : fs.length ≤ 9223372036854775807) (hcap : fs.length ≤ cap) (hs : FldsBig fs) :
    Calls Tryz.prog 96 #[.slice p fs.length cap, .int .i64 l0] w fun e w' => (∃ r : Int, e = .returned (.int .i64 r) ∧ (r = -1 ∨ (0 ≤ r ∧ r ≤ l0 ∧ fs.length ≤ 1048576))) ∧ Below w.heap.size w w' := by
  have HP : Hid (FldAt w p fs) := hp
  have HS : Hid (FldsBig fs) := hs
  clear hp hs
  by_cases hl : (fs.length : Int) ≤ l0
  · go_enter Tryz.func96, Tryz.ntmps96
    go_wp2_with fail
    go_loopw [5, 1] (fun i x wr => ∃ (k : Nat) (l : Int), k ≤ fs.length ∧ i = .int .i64 k ∧ x = .int .i64 l ∧ 0 ≤ l ∧ l ≤ l0 ∧ Hid (Below w.heap.size w wr)) (fun i _ _ => fs.length - (intOf i).toNat)
    case atStart => exact ⟨0, _, Nat.zero_le _, rfl, rfl, by omega, by omega, Below.refl _ _⟩
    case round =>
      obtain ⟨k, l, hk, rfl, rfl, hl0, hl1, HB⟩ := hrel
      by_cases hlt : k < fs.length
      · obtain ⟨b, off, rfl, hb, hc1, hc2, hc3, hc4, hc5⟩ := (HP.out.below HB.out) k hlt
        have hsz := HS.out fs[k] (List.getElem_mem hlt)
        have j5 : (k : Int) < fs.length := by omega
        generalize fs[k] = f at *
        obtain ⟨n, c, s, v, g⟩ := f
        have hc1 : wr.cell? ⟨b, off + k * 5, none⟩ = some (.string n) := hc1
        have hc2 : wr.cell? ⟨b, off + k * 5 + 1, none⟩ = some (.string c) := hc2
        have hc3 : wr.cell? ⟨b, off + k * 5 + 2, none⟩ = some (.string s) := hc3
        have hc4 : wr.cell? ⟨b, off + k * 5 + 3, none⟩ = some (.string v) := hc4
        have hc5 : wr.cell? ⟨b, off + k * 5 + 4, none⟩ = some (.bool g) := hc5
        have hS := szFld_any ⟨n, c, s, v, g⟩ l wr hl0 (by omega) hsz.1 hsz.2.1 hsz.2.2.1 hsz.2.2.2
        clear hsz
        go_wp2_with fail
        refine hS.mono ?_
        rintro e w1 ⟨⟨r, rfl, hr⟩, b1⟩
        have HB1 : Hid (Below w.heap.size w w1) := chainB HB.out b1
        clear b1 HB hS hc1 hc2 hc3 hc4 hc5
        rcases hr with rfl | ⟨r0, r1⟩
        · go_wp2_with fail
          go_ret
          exact ⟨⟨_, rfl, .inl rfl⟩, HB1.out⟩
        · have dl : decide (r < 0) = false := decide_eq_false (by omega)
          go_wp2_with fail
          go_roundw
          case rel => exact ⟨k + 1, r, by omega, by go_num, rfl, by omega, by omega, HB1⟩
          case measure => simp [intOf]; omega
      · go_wp2_with fail
        go_ret
        exact ⟨⟨_, rfl, .inr ⟨hl0, by omega, by omega⟩⟩, HB.out⟩
  · go_enter Tryz.func96, Tryz.ntmps96
    go_wp2_with fail
    go_ret
    exact ⟨⟨_, rfl, .inl rfl⟩, Below.refl _ _⟩

theorem toFld_any (f : Fld) (w : World) :
    Calls Tryz.prog 129 #[.agg #[.string f.n, .string f.c, .string f.s, .string f.v, .bool f.g]] w fun e w' => e = .returned (.agg #[.string f.n, .string f.c, .string f.s, .string f.v, .bool f.g]) ∧ Below w.heap.size w w' := by
  obtain ⟨n, c, s, v, g⟩ := f
  show Calls Tryz.prog 129 #[.agg #[.string n, .string c, .string s, .string v, .bool g]] w fun e w' => e = .returned (.agg #[.string n, .string c, .string s, .string v, .bool g]) ∧ _
  have B1 : Below w.heap.size w (((w.alloc (.cells #[.string n, .string c, .string s, .string v, .bool g] 176)).alloc (.cells #[.string n, .string c, .string s, .string v, .bool g] 66)).alloc (.cells #[.string n, .string c, .string s, .string v, .bool g] 66)) := alB (alB (alB (Below.refl _ _) _) _) _
  go_enter Tryz.func129, Tryz.ntmps129
  go_wp2_with fail
  refine bodyPost_ret (v := .agg #[.string n, .string c, .string s, .string v, .bool g]) (by simp [results, Tryz.results129, go_sem]) rfl ?_
  exact ⟨rfl, B1⟩

def cutF (fs : List Fld) (k : Nat) : List Fld := fs.take k ++ List.replicate (fs.length - k) fldE5
theorem cutF_len (fs : List Fld) (k : Nat) (h : k ≤ fs.length) : (cutF fs k).length = fs.length := by simp [cutF]; omega
theorem cutF_set (fs : List Fld) (k : Nat) (h : k < fs.length) : (cutF fs k).set k fs[k] = cutF fs (k + 1) := by
  unfold cutF
  rw [show fs.length - k = (fs.length - (k + 1)) + 1 by omega, List.replicate_succ]
  have hl : (fs.take k).length = k := by simp; omega
  rw [List.set_append_right _ _ (by omega), hl, Nat.sub_self, List.set_cons_zero, List.take_succ_eq_append_getElem h, List.append_assoc]; rfl
theorem BlkF.own {w : World} {g : Nat} {l : List Fld} (h : BlkF w g l) (base : Nat) (hb : base ≤ g) (hm : l.length ≤ maxLen) : w.ownsRow base 66 5 (.slice (some ⟨g, 0, none⟩) l.length l.length) l.length (fldRow l) :=
  ⟨fldRow_len l, .inr ⟨g, l.length, (fldRow l).toArray, rfl, hb, h, Nat.le_refl _, hm, by rw [List.size_toArray, fldRow_len], List.take_of_length_le (by rw [fldRow_len]; exact Nat.le_refl _)⟩⟩

set_option maxHeartbeats 2000000 in
theorem toF_any (p : Option Addr) (cap : Nat) (fs : List Fld) (w : World) (hp : FldAt w p fs) (hn : fs.length ≤ 1048576) (hcap : fs.length ≤ cap) :
    Calls Tryz.prog 101 #[.slice p fs.length cap] w fun e w' => e = .returned (.slice (some ⟨w.heap.size, 0, none⟩) fs.length fs.length) ∧ BlkF w' w.heap.size fs ∧ Below w.heap.size w w' := by
  have HP : Hid (FldAt w p fs) := hp
  clear hp
  obtain ⟨W1, hW1⟩ : ∃ W1, W1 = w.alloc (.cells (fldRow (List.replicate fs.length fldE5)).toArray 66) := ⟨_, rfl⟩
  have hmk := run_make_fld fs.length hn w
  rw [← hW1] at hmk
  have H0 : Hid (BlkF W1 w.heap.size (cutF fs 0)) := by
    have : BlkF W1 w.heap.size (List.replicate fs.length fldE5) := by rw [hW1]; exact alloc_fld _ _
    show BlkF _ _ _
    unfold cutF; simpa using this
  have B0 : Hid (Below w.heap.size w W1) := by rw [hW1]; exact (Below.refl _ _).alloc (Nat.le_refl _) _
  clear hW1
  go_enter Tryz.func101, Tryz.ntmps101
  go_wp2_with fail
  go_loopw [4] (fun i wr => ∃ k : Nat, k ≤ fs.length ∧ i = .int .i64 k ∧ Hid (BlkF wr w.heap.size (cutF fs k)) ∧ Hid (Below w.heap.size w wr)) (fun i _ => fs.length - (intOf i).toNat)
  case atStart => exact ⟨0, Nat.zero_le _, rfl, H0, B0⟩
  case round =>
    clear H0 hmk B0
    obtain ⟨k, hk, rfl, hrow, hnx⟩ := hrel
    have hsz := Bxs.lt hrow.out
    by_cases hlt : k < fs.length
    · have i1 : (k : Int) < fs.length := by omega
      obtain ⟨b, off, rfl, hb, hc1, hc2, hc3, hc4, hc5⟩ := HP.out k hlt
      have hc1 := (hnx.out.cell (p := ⟨b, off + k * 5, none⟩) hb).trans hc1
      have hc2 := (hnx.out.cell (p := ⟨b, off + k * 5 + 1, none⟩) hb).trans hc2
      have hc3 := (hnx.out.cell (p := ⟨b, off + k * 5 + 2, none⟩) hb).trans hc3
      have hc4 := (hnx.out.cell (p := ⟨b, off + k * 5 + 3, none⟩) hb).trans hc4
      have hc5 := (hnx.out.cell (p := ⟨b, off + k * 5 + 4, none⟩) hb).trans hc5
      have hlen := cutF_len fs k hk
      have hset := cutF_set fs k hlt
      have HS : Hid (∀ y, Below wr.heap.size wr y → (∃ x1 x2 x3 x4 x5, y.cell? ⟨w.heap.size, k * 5, none⟩ = some x1 ∧ y.cell? ⟨w.heap.size, k * 5 + 1, none⟩ = some x2 ∧ y.cell? ⟨w.heap.size, k * 5 + 2, none⟩ = some x3 ∧ y.cell? ⟨w.heap.size, k * 5 + 3, none⟩ = some x4 ∧ y.cell? ⟨w.heap.size, k * 5 + 4, none⟩ = some x5) ∧ (y.frozen? ⟨w.heap.size, k * 5, none⟩ = false ∧ y.frozen? ⟨w.heap.size, k * 5 + 1, none⟩ = false ∧ y.frozen? ⟨w.heap.size, k * 5 + 2, none⟩ = false ∧ y.frozen? ⟨w.heap.size, k * 5 + 3, none⟩ = false ∧ y.frozen? ⟨w.heap.size, k * 5 + 4, none⟩ = false) ∧ Hid (∀ f, fs[k] = f → BlkF (set5 y w.heap.size (k * 5) f) w.heap.size (cutF fs (k + 1)) ∧ Below w.heap.size w (set5 y w.heap.size (k * 5) f))) := fun y hb => by
        have h := hrow.out.below hb
        obtain ⟨g1, g3⟩ := h.cells k (by omega)
        refine ⟨⟨_, _, _, _, _, g1⟩, g3, fun f he => ?_⟩
        rw [← hset, he]
        exact ⟨h.set5 k f, set5_below (chainB hnx.out hb) (Nat.le_refl _) _ _⟩
      clear hset hrow
      generalize fs[k] = f at *
      obtain ⟨n, c, s, v, g⟩ := f
      have hc1 : wr.cell? ⟨b, off + k * 5, none⟩ = some (.string n) := hc1
      have hc2 : wr.cell? ⟨b, off + k * 5 + 1, none⟩ = some (.string c) := hc2
      have hc3 : wr.cell? ⟨b, off + k * 5 + 2, none⟩ = some (.string s) := hc3
      have hc4 : wr.cell? ⟨b, off + k * 5 + 3, none⟩ = some (.string v) := hc4
      have hc5 : wr.cell? ⟨b, off + k * 5 + 4, none⟩ = some (.bool g) := hc5
      go_wp2_with fail
      refine (toFld_any ⟨n, c, s, v, g⟩ wr).mono ?_
      rintro e y ⟨rfl, b1⟩
      obtain ⟨⟨x1, x2, x3, x4, x5, g1, g2, g3, g4, g5⟩, ⟨f1, f2, f3, f4, f5⟩, HE⟩ := HS.out y b1
      obtain ⟨W5, hW5⟩ : ∃ W5, W5 = set5 y w.heap.size (k * 5) ⟨n, c, s, v, g⟩ := ⟨_, rfl⟩
      have HE2 : Hid (BlkF W5 w.heap.size (cutF fs (k + 1))) := by rw [hW5]; exact (HE.out _ rfl).1
      have HE3 : Hid (Below w.heap.size w W5) := by rw [hW5]; exact (HE.out _ rfl).2
      have HW5 : Hid (W5 = set5 y w.heap.size (k * 5) ⟨n, c, s, v, g⟩) := hW5
      clear HS HE b1 hc1 hc2 hc3 hc4 hc5 hW5
      go_wp2_with fail
      go_roundw
      case rel =>
        have e5 := HW5.out
        unfold set5 at e5
        rw [← e5]
        exact ⟨k + 1, by omega, by go_num, HE2, HE3⟩
      case measure => simp [intOf]; omega
    · have hkk : k = fs.length := by omega
      subst hkk
      have HR : Hid (BlkF wr w.heap.size fs) := by
        have := hrow.out; unfold cutF at this; show BlkF _ _ _; simpa using this
      go_wp2_with fail
      go_ret
      exact ⟨rfl, HR.out, hnx.out⟩

theorem eqFld_any (f : Fld) (w : World) :
    Calls Tryz.prog 133 #[.agg #[.string f.n, .string f.c, .string f.s, .string f.v, .bool f.g], .agg #[.string f.n, .string f.c, .string f.s, .string f.v, .bool f.g]] w fun e w' => e = .returned (.bool true) ∧ Below w.heap.size w w' := by
  obtain ⟨n, c, s, v, g⟩ := f
  show Calls Tryz.prog 133 #[.agg #[.string n, .string c, .string s, .string v, .bool g], .agg #[.string n, .string c, .string s, .string v, .bool g]] w _
  have B1 : Below w.heap.size w ((w.alloc (.cells #[.string n, .string c, .string s, .string v, .bool g] 66)).alloc (.cells #[.string n, .string c, .string s, .string v, .bool g] 66)) := alB (alB (Below.refl _ _) _) _
  go_enter Tryz.func133, Tryz.ntmps133
  go_wp2_with fail
  go_ret
  exact ⟨rfl, B1⟩

set_option maxHeartbeats 1000000 in
theorem eqF_any (p q : Option Addr) (cap cap2 : Nat) (fs : List Fld) (w : World) (hp : FldAt w p fs) (hq : FldAt w q fs) (hn : fs.length ≤ 1048576) (hcap : fs.length ≤ cap) (hcap2 : fs.length ≤ cap2) :
    Calls Tryz.prog 106 #[.slice p fs.length cap, .slice q fs.length cap2] w fun e w' => e = .returned (.bool true) ∧ Below w.heap.size w w' := by
  have HP : Hid (FldAt w p fs) := hp
  have HQ : Hid (FldAt w q fs) := hq
  clear hp hq
  go_enter Tryz.func106, Tryz.ntmps106
  go_wp2_with fail
  go_loopw [5] (fun i wr => ∃ k : Nat, k ≤ fs.length ∧ i = .int .i64 k ∧ Hid (Below w.heap.size w wr)) (fun i _ => fs.length - (intOf i).toNat)
  case atStart => exact ⟨0, Nat.zero_le _, rfl, Below.refl _ _⟩
  case round =>
    obtain ⟨k, hk, rfl, HB⟩ := hrel
    by_cases hlt : k < fs.length
    · obtain ⟨b, off, rfl, hb, hc1, hc2, hc3, hc4, hc5⟩ := (HP.out.below HB.out) k hlt
      obtain ⟨b2, off2, rfl, hb2, hd1, hd2, hd3, hd4, hd5⟩ := (HQ.out.below HB.out) k hlt
      have j5 : (k : Int) < fs.length := by omega
      generalize fs[k] = f at *
      obtain ⟨n, c, s, v, g⟩ := f
      have hc1 : wr.cell? ⟨b, off + k * 5, none⟩ = some (.string n) := hc1
      have hc2 : wr.cell? ⟨b, off + k * 5 + 1, none⟩ = some (.string c) := hc2
      have hc3 : wr.cell? ⟨b, off + k * 5 + 2, none⟩ = some (.string s) := hc3
      have hc4 : wr.cell? ⟨b, off + k * 5 + 3, none⟩ = some (.string v) := hc4
      have hc5 : wr.cell? ⟨b, off + k * 5 + 4, none⟩ = some (.bool g) := hc5
      have hd1 : wr.cell? ⟨b2, off2 + k * 5, none⟩ = some (.string n) := hd1
      have hd2 : wr.cell? ⟨b2, off2 + k * 5 + 1, none⟩ = some (.string c) := hd2
      have hd3 : wr.cell? ⟨b2, off2 + k * 5 + 2, none⟩ = some (.string s) := hd3
      have hd4 : wr.cell? ⟨b2, off2 + k * 5 + 3, none⟩ = some (.string v) := hd4
      have hd5 : wr.cell? ⟨b2, off2 + k * 5 + 4, none⟩ = some (.bool g) := hd5
      go_wp2_with fail
      go_region_with (first | (go_at_call 133; refine (eqFld_any ⟨n, c, s, v, g⟩ _).mono ?_; rintro e y1 ⟨rfl, z1⟩; have z1 : Below w.heap.size w y1 := chainB (by first | exact HB.out | exact HB.out.drew) z1))
      all_goals
        have HB1 : Hid (Below w.heap.size w y1) := z1
        clear z1
        go_wp2_with fail
        go_roundw
        case rel => exact ⟨k + 1, by omega, by go_num, HB1⟩
        case measure => simp [intOf]; omega
    · go_wp2_with fail
      go_ret
      exact ⟨rfl, HB.out⟩
end Go.Proofs.YthkmeneepkaedaaGreatDoor
/-
  What the laws' own helpers do that mark fields: markFieldS, heldFieldS, from any number on.
  Conditions: the slice owns its row, of at most 2^20 fields.
-/
namespace Go.Proofs.YthkmeneepkaedaaGreatDoor
open Go.RowKit Go.Lib
set_option linter.unusedVariables false
set_option maxRecDepth 20000

def mkF (s j : Nat) : Fld := ⟨markB (s + 5 * j), markB (s + 5 * j + 1), markB (s + 5 * j + 2), markB (s + 5 * j + 3), decide ((s + 5 * j + 4) % 3 = 0)⟩
def mfN (s n : Nat) : List Fld := (List.range n).map (mkF s)
def mfT (s : Nat) (l : List Fld) (k : Nat) : List Fld := mfN s k ++ l.drop k
theorem mfT_len (s : Nat) (l : List Fld) (k : Nat) (h : k ≤ l.length) : (mfT s l k).length = l.length := by simp [mfT, mfN]; omega
theorem mfT_set (s : Nat) (l : List Fld) (k : Nat) (h : k < l.length) : (mfT s l k).set k (mkF s k) = mfT s l (k + 1) := by
  unfold mfT mfN
  have hl : ((List.range k).map (mkF s)).length = k := by simp
  rw [List.set_append_right _ _ (by omega), hl, Nat.sub_self, List.drop_eq_getElem_cons h, List.set_cons_zero, List.range_succ, List.map_append, List.append_assoc]; rfl
theorem mfT_all (s : Nat) (l : List Fld) : mfT s l l.length = mfN s l.length := by unfold mfT; simp
theorem mfN_len (s n : Nat) : (mfN s n).length = n := by simp [mfN]
theorem markText_int (z : Int) (k : Nat) (hz : z = (k : Int)) (w : World) (h1 : 1 ≤ k) (h2 : k ≤ 16777217) :
    Calls Tryz.prog 83 #[.int .i64 z] w fun e w' => e = .returned (.string (markB k)) ∧ Below w.heap.size w w' := by
  subst hz; exact markText_any k w h1 h2
/-- A step of the marking: a row of its own, and what is told of the world since. -/
structure MfS (w : World) (base g n cap : Nat) (row : List Value) (x : World) : Prop where
  own : x.ownsRow base 66 5 (.slice (some ⟨g, 0, none⟩) n cap) n row
  gr : w.grownBy x (some g)
theorem MfS.cell {w : World} {base g n cap : Nat} {row : List Value} {x y : World} (h : MfS w base g n cap row x) (hb : Below x.heap.size x y) (i : Nat) (hi : i < n * 5) : (∃ v, y.cell? ⟨g, i, none⟩ = some v) ∧ y.frozen? ⟨g, i, none⟩ = false := by
  have ho := ownS_below h.own hb
  refine ⟨?_, ho.frozenAt _⟩
  rw [ho.cellAt i hi]
  have hl : row.length = n * 5 := h.own.1
  exact ⟨row[i]'(by omega), List.getElem?_eq_getElem (by omega)⟩
theorem MfS.step {w : World} {base g n cap : Nat} {row : List Value} {x y : World} (h : MfS w base g n cap row x) (hb : Below x.heap.size x y) (i : Nat) (v : Value) : MfS w base g n cap (row.set i v) (y.setCell ⟨g, i, none⟩ v) := by
  have ho := ownS_below h.own hb
  have hst := ho.stored i v
  refine ⟨hst.1, ?_⟩
  have a := h.gr
  have a2 := hst.2
  refine ⟨(a2.os.trans hb.os).trans a.os, (a2.tape.trans hb.tape).trans a.tape, (a2.output.trans hb.output).trans a.output, by have := a.size; have := hb.size; have := a2.size; omega, fun q hq hne => ?_⟩
  have l1 := Nat.lt_of_lt_of_le hq a.size
  have l3 := Nat.lt_of_lt_of_le l1 hb.size
  exact (a2.block q l3 hne).trans ((hb.block q l1).trans (a.block q hq hne))
theorem mod3 (z : Int) (k : Nat) (hz : z = (k : Int)) : (z % 3 == 0) = decide (k % 3 = 0) := by
  subst hz
  rw [Bool.eq_iff_iff, beq_iff_eq, decide_eq_true_iff]; omega

set_option maxHeartbeats 4000000 in
theorem markF_any (s : Nat) (hs1 : 1 ≤ s) (base : Nat) (v : Value) (l : List Fld) (w : World) (h : w.ownsRow base 66 5 v l.length (fldRow l)) (hl : s + 5 * l.length ≤ 16777210) :
    Calls Tryz.prog 84 #[v, .int .i64 (s : Int)] w fun e w' => e = .returned (.int .i64 (5 * (l.length : Int) + s)) ∧ w'.ownsRow base 66 5 v l.length (fldRow (mfN s l.length)) ∧ w.grownBy w' v.ownBlock := by
  rcases h.2 with ⟨rfl, h0⟩ | ⟨g, cap, cur, rfl, hg1, hg2, hg3, hg4, hg5, hg6⟩
  · have hl0 : l = [] := List.length_eq_zero_iff.1 h0
    subst hl0
    clear h h0
    go_enter Tryz.func84, Tryz.ntmps84
    go_wp2_with fail
    go_loop [5, 1] (fun i x => i = .int .i64 0 ∧ x = .int .i64 (s : Int)) (fun _ _ => 0)
    case atStart => exact ⟨rfl, rfl⟩
    case round =>
      obtain ⟨rfl, rfl⟩ := hrel
      go_wp2_with fail
      go_ret
      exact ⟨by simp, World.ownsRow_nil _ _ _ _, World.grownBy.refl _ _⟩
  · have HO : Hid (MfS w base g l.length cap (fldRow (mfT s l 0)) w) := by
      refine ⟨?_, World.grownBy.refl _ _⟩
      rw [show mfT s l 0 = l by simp [mfT, mfN]]; exact h
    clear h hg2 hg5 hg6
    go_enter Tryz.func84, Tryz.ntmps84
    go_wp2_with fail
    go_loopw [5, 1] (fun i x wr => ∃ k : Nat, k ≤ l.length ∧ i = .int .i64 k ∧ x = .int .i64 (5 * (k : Int) + s) ∧ Hid (MfS w base g l.length cap (fldRow (mfT s l k)) wr)) (fun i _ _ => l.length - (intOf i).toNat)
    case atStart => exact ⟨0, Nat.zero_le _, rfl, by simp, HO⟩
    case round =>
      clear HO
      obtain ⟨k, hk, rfl, rfl, hM⟩ := hrel
      by_cases hlt : k < l.length
      · have i1 : (k : Int) < l.length := by omega
        have HE : Hid ((((((fldRow (mfT s l k)).set (k * 5) (.string (markB (s + 5 * k)))).set (k * 5 + 1) (.string (markB (s + 5 * k + 1)))).set (k * 5 + 2) (.string (markB (s + 5 * k + 2)))).set (k * 5 + 3) (.string (markB (s + 5 * k + 3)))).set (k * 5 + 4) (.bool (decide ((s + 5 * k + 4) % 3 = 0))) = fldRow (mfT s l (k + 1))) := by
          show _ = _
          rw [← mfT_set s l k hlt, ← fldRow_set]; rfl
        generalize fldRow (mfT s l k) = row0 at *
        have A1 : Hid (∀ z : Int, ∀ w, z = 5 * (k : Int) + s → Calls Tryz.prog 83 #[.int .i64 z] w fun e w' => e = .returned (.string (markB (s + 5 * k))) ∧ Below w.heap.size w w') := fun z w hz => markText_int z _ (by omega) w (by omega) (by omega)
        have A2 : Hid (∀ z : Int, ∀ w, z = 5 * (k : Int) + s + 1 → Calls Tryz.prog 83 #[.int .i64 z] w fun e w' => e = .returned (.string (markB (s + 5 * k + 1))) ∧ Below w.heap.size w w') := fun z w hz => markText_int z _ (by omega) w (by omega) (by omega)
        have A3 : Hid (∀ z : Int, ∀ w, z = 5 * (k : Int) + s + 2 → Calls Tryz.prog 83 #[.int .i64 z] w fun e w' => e = .returned (.string (markB (s + 5 * k + 2))) ∧ Below w.heap.size w w') := fun z w hz => markText_int z _ (by omega) w (by omega) (by omega)
        have A4 : Hid (∀ z : Int, ∀ w, z = 5 * (k : Int) + s + 3 → Calls Tryz.prog 83 #[.int .i64 z] w fun e w' => e = .returned (.string (markB (s + 5 * k + 3))) ∧ Below w.heap.size w w') := fun z w hz => markText_int z _ (by omega) w (by omega) (by omega)
        generalize markB (s + 5 * k) = M1 at *
        generalize markB (s + 5 * k + 1) = M2 at *
        generalize markB (s + 5 * k + 2) = M3 at *
        generalize markB (s + 5 * k + 3) = M4 at *
        go_wp2_with fail
        refine (A1.out _ _ (by omega)).mono ?_
        rintro e y ⟨rfl, b⟩
        obtain ⟨⟨x, c1⟩, f1⟩ := hM.out.cell b (k * 5) (by omega)
        obtain ⟨Y1, hY1⟩ : ∃ Y, Y = y.setCell ⟨g, k * 5, none⟩ (.string M1) := ⟨_, rfl⟩
        have HY1 : Hid (Y1 = y.setCell ⟨g, k * 5, none⟩ (.string M1)) := hY1
        have HM1 : Hid (MfS w base g l.length cap (row0.set (k * 5) (.string M1)) Y1) := by rw [hY1]; exact hM.out.step b _ _
        clear hM b hY1 A1
        go_wp2_with fail
        rw [← HY1.out]
        refine (A2.out _ _ (by omega)).mono ?_
        clear HY1 c1 f1
        rintro e y ⟨rfl, b⟩
        obtain ⟨⟨x, c1⟩, f1⟩ := HM1.out.cell b (k * 5 + 1) (by omega)
        obtain ⟨Y2, hY2⟩ : ∃ Y, Y = y.setCell ⟨g, k * 5 + 1, none⟩ (.string M2) := ⟨_, rfl⟩
        have HY2 : Hid (Y2 = y.setCell ⟨g, k * 5 + 1, none⟩ (.string M2)) := hY2
        have HM2 : Hid (MfS w base g l.length cap ((row0.set (k * 5) (.string M1)).set (k * 5 + 1) (.string M2)) Y2) := by rw [hY2]; exact HM1.out.step b _ _
        clear HM1 b hY2 A2
        go_wp2_with fail
        rw [← HY2.out]
        refine (A3.out _ _ (by omega)).mono ?_
        clear HY2 c1 f1
        rintro e y ⟨rfl, b⟩
        obtain ⟨⟨x, c1⟩, f1⟩ := HM2.out.cell b (k * 5 + 2) (by omega)
        obtain ⟨Y3, hY3⟩ : ∃ Y, Y = y.setCell ⟨g, k * 5 + 2, none⟩ (.string M3) := ⟨_, rfl⟩
        have HY3 : Hid (Y3 = y.setCell ⟨g, k * 5 + 2, none⟩ (.string M3)) := hY3
        have HM3 : Hid (MfS w base g l.length cap (((row0.set (k * 5) (.string M1)).set (k * 5 + 1) (.string M2)).set (k * 5 + 2) (.string M3)) Y3) := by rw [hY3]; exact HM2.out.step b _ _
        clear HM2 b hY3 A3
        go_wp2_with fail
        rw [← HY3.out]
        refine (A4.out _ _ (by omega)).mono ?_
        clear HY3 c1 f1
        rintro e y ⟨rfl, b⟩
        obtain ⟨⟨x, c1⟩, f1⟩ := HM3.out.cell b (k * 5 + 3) (by omega)
        obtain ⟨Y4, hY4⟩ : ∃ Y, Y = y.setCell ⟨g, k * 5 + 3, none⟩ (.string M4) := ⟨_, rfl⟩
        have HY4 : Hid (Y4 = y.setCell ⟨g, k * 5 + 3, none⟩ (.string M4)) := hY4
        have HM4 : Hid (MfS w base g l.length cap ((((row0.set (k * 5) (.string M1)).set (k * 5 + 1) (.string M2)).set (k * 5 + 2) (.string M3)).set (k * 5 + 3) (.string M4)) Y4) := by rw [hY4]; exact HM3.out.step b _ _
        obtain ⟨⟨x5, c5⟩, f5⟩ := HM4.out.cell (Below.refl _ _) (k * 5 + 4) (by omega)
        rw [hY4] at c5 f5
        clear HM3 b hY4 A4
        go_wp2_with fail
        rw [← HY4.out]
        go_roundw
        case rel =>
          have h5 := HM4.out.step (Below.refl _ _) (k * 5 + 4) (.bool (decide ((s + 5 * k + 4) % 3 = 0)))
          rw [HE.out] at h5
          refine ⟨k + 1, by omega, by go_num, by go_num, ?_⟩
          rw [mod3 (5 * (k : Int) + s + 1 + 1 + 1 + 1) (s + 5 * k + 4) (by omega)]
          exact h5
        case measure => simp [intOf]; omega
      · obtain rfl : k = l.length := by omega
        have HO2 : Hid (MfS w base g l.length cap (fldRow (mfN s l.length)) wr) := by
          rw [← mfT_all]; exact hM.out
        go_wp2_with fail
        go_ret
        exact ⟨rfl, HO2.out.own, HO2.out.gr⟩

end Go.Proofs.YthkmeneepkaedaaGreatDoor
