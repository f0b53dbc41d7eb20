/-
  Parts of one proof, laid as one text: LgAtK, ShwK, OneK, FldG, FldBlk; what each says stands at its head.
-/
import Derived.Test.YtpijadhfdpihkaaGreatDoorRows
import Derived.Test.YtpijadhfdpihkaaGreatDoorBytesDigMath
import Derived.Test.YtpijadhfdpihkaaGreatDoorSlASlBBxKOwnS
import Derived.Test.YtpijadhfdpihkaaGreatDoorJoinedPutTextFldMath
import Derived.Test.YtpijadhfdpihkaaGreatDoorLgMath
import Derived.Handy
import Derived.OwnWalk
import Derived.Deep.AppendLies
/-
  What holds of a log that lies in memory: its rows and leaves as cells, within the reach.
-/
namespace Go.Proofs.YtpijadhfdpihkaaGreatDoor
open Go.RowKit Go.Lib
set_option linter.unusedVariables false

/-- What holds of a log that lies in memory. -/
structure LgAt (p : Option Addr) (lv : List ByteArray) (cp : Nat) (q : Option Addr) (rs : List Rw) (cq : Nat) (w : World) : Prop where
  tx : TxtAt w p lv
  lc : lv.length ≤ cp
  ln : lv.length ≤ 1048576
  lz : TxtsLe lv
  rw : RwAt w q rs
  rc : rs.length ≤ cq
  rn : rs.length ≤ 1048576
  rz : RwsLe rs
theorem LgAt.below {p : Option Addr} {lv : List ByteArray} {cp : Nat} {q : Option Addr} {rs : List Rw} {cq : Nat} {w x : World} (h : LgAt p lv cp q rs cq w) (hb : Below w.heap.size w x) : LgAt p lv cp q rs cq x :=
  ⟨h.tx.below hb, h.lc, h.ln, h.lz, h.rw.below hb, h.rc, h.rn, h.rz⟩
end Go.Proofs.YtpijadhfdpihkaaGreatDoor
/-
  What is shown of a row: two rows of texts of its own in a box, apart; append of one text.
-/
namespace Go.Proofs.YtpijadhfdpihkaaGreatDoor
open Go.RowKit Go.Lib
set_option linter.unusedVariables false
set_option maxRecDepth 20000

theorem infoStr7 : (Tryz.prog.info? 9).map (fun i => (i.zero, i.size, i.bytes)) = some (some (.string ByteArray.empty), 1, 16) := by kernel_rfl
theorem app_str (w : World) (base : Nat) (v : Value) (l : List ByteArray) (own : w.ownsRow base 9 1 v l.length (strRow l)) (t : ByteArray) (hl : l.length + 1 ≤ 1048576) (hbase : base ≤ w.heap.size) :
    ∃ g c w', (Builtin.append_ #[23, 23] 23 #[v, .slice (some ⟨w.heap.size, 0, none⟩) 1 1]).run Tryz.prog (w.alloc (.cells #[.string t] 9)) = .ok (.slice (some ⟨g, 0, none⟩) (l.length + 1) c) w' ∧
      w'.ownsRow base 9 1 (.slice (some ⟨g, 0, none⟩) (l.length + 1) c) (l ++ [t]).length (strRow (l ++ [t])) ∧ (w.alloc (.cells #[.string t] 9)).grownBy w' v.ownBlock ∧ (v.ownBlock = some g ∨ g = w.heap.size + 1) := by
  obtain ⟨i0, hi, hz0, hz1, hz2⟩ := info_parts infoStr7
  obtain ⟨g, c, w', h1, h2, h3, h4, _⟩ := run_append_lies (P := Tryz.prog) (w.alloc (.cells #[.string t] 9)) 23 23 base 9 i0 _ 1 16 Tryz.underlying23 hi hz0 hz1 hz2 rfl (by omega) v l.length (strRow l) (own.alloc _) ⟨w.heap.size, 0, none⟩ 1 1 [.string t] rfl (fun j u hu => by
      have hj : j < 1 := by
        rcases Nat.lt_or_ge j 1 with q | q
        · exact q
        · rw [List.getElem?_eq_none (by exact q)] at hu; cases hu
      have hadd : (⟨w.heap.size, 0, none⟩ : Addr).add j = ⟨w.heap.size, 0 + j, none⟩ := by unfold Addr.add; split <;> simp_all
      rw [hadd, Nat.zero_add, World.cell?_alloc_mark]
      match j, hj with
      | 0, _ => exact hu) (fun u hu => by
      simp at hu
      subst hu; rfl) (by omega) (by unfold maxLen; omega) (by omega) (by simp; omega) (w.heap.size + 1) (by simp)
  refine ⟨g, c, w', h1, ?_, h3, h4⟩
  have e1 : (l ++ [t]).length = l.length + 1 := by simp
  have e2 : strRow (l ++ [t]) = strRow l ++ [.string t] := by simp [strRow]
  rw [e1, e2]; exact h2
theorem ownR_ne {w : World} {base g : Nat} {e T : TypeId} {s : Nat} {v : Value} {n : Nat} {xs : List Value} {cs : Array Value} (h : w.ownsRow base e s v n xs) (hb : Bxs w g T cs) (hne : T ≠ e) : v.ownBlock ≠ some g := by
  intro he
  rcases h.2 with ⟨rfl, _⟩ | ⟨g', cap, cur, rfl, _, hg', _⟩
  · cases he
  · have : g' = g := by simpa [Value.ownBlock] using he
    subst this
    unfold Bxs at hb
    rw [hb] at hg'
    injection hg' with h1
    injection h1 with h2 h3
    exact hne h3
theorem ownR_grown {w w' : World} {base : Nat} {e : TypeId} {s : Nat} {v : Value} {n : Nat} {xs : List Value} (h : w.ownsRow base e s v n xs) {row : Option Nat} (hg : w.grownBy w' row) (hne : ∀ g, v.ownBlock = some g → row ≠ some g) : w'.ownsRow base e s v n xs := by
  refine ⟨h.1, ?_⟩
  rcases h.2 with h0 | ⟨g, cap, cur, rfl, h2, h3, h4⟩
  · exact .inl h0
  · exact .inr ⟨g, cap, cur, rfl, h2, (hg.block g (lt_of_block h3) (Ne.symm (hne g rfl))).trans h3, h4⟩
/-- A box with two rows of texts of its own, apart. -/
structure Two (W : World) (Z : Nat) (T : TypeId) (cs : Array Value) (v1 v2 : Value) (a b : List ByteArray) (x : World) : Prop where
  bel : Below W.heap.size W x
  hZ : W.heap.size ≤ Z
  hT : T ≠ 9
  box : Bxs x Z T cs
  own1 : x.ownsRow W.heap.size 9 1 v1 a.length (strRow a)
  own2 : x.ownsRow W.heap.size 9 1 v2 b.length (strRow b)
  ap : ∀ g, v1.ownBlock = some g → v2.ownBlock ≠ some g
theorem Two.below {W : World} {Z : Nat} {T : TypeId} {cs : Array Value} {v1 v2 : Value} {a b : List ByteArray} {x y : World} (h : Two W Z T cs v1 v2 a b x) (hb : Below x.heap.size x y) : Two W Z T cs v1 v2 a b y :=
  ⟨chainB h.bel hb, h.hZ, h.hT, h.box.below hb, ownS_below h.own1 hb, ownS_below h.own2 hb, h.ap⟩
theorem Two.swap {W : World} {Z : Nat} {T : TypeId} {cs : Array Value} {v1 v2 : Value} {a b : List ByteArray} {x : World} (h : Two W Z T cs v1 v2 a b x) : Two W Z T cs v2 v1 b a x :=
  ⟨h.bel, h.hZ, h.hT, h.box, h.own2, h.own1, fun g hg he => h.ap g he hg⟩
theorem Two.put {W : World} {Z : Nat} {T : TypeId} {cs : Array Value} {v1 v2 : Value} {a b : List ByteArray} {x : World} (h : Two W Z T cs v1 v2 a b x) (j : Nat) (u : Value) : Two W Z T (cs.setIfInBounds j u) v1 v2 a b (x.setCell ⟨Z, j, none⟩ u) :=
  ⟨h.bel.setCell h.hZ _, h.hZ, h.hT, h.box.set j u, ownsRow_setCell_other h.own1 (ownR_ne h.own1 h.box h.hT) _, ownsRow_setCell_other h.own2 (ownR_ne h.own2 h.box h.hT) _, h.ap⟩
/-- One text is put behind the first row, and the row into the box. -/
theorem Two.app2 {W : World} {Z : Nat} {T : TypeId} {cs : Array Value} {v1 v2 : Value} {a b : List ByteArray} {x : World} (h : Two W Z T cs v1 v2 a b x) (j : Nat) (t : ByteArray) (hj : cs[j]? = some v1) (hl : a.length + 1 ≤ 1048576) :
    ∃ g c y, (Builtin.append_ #[23, 23] 23 #[v1, .slice (some ⟨x.heap.size, 0, none⟩) 1 1]).run Tryz.prog (x.alloc (.cells #[.string t] 9)) = .ok (.slice (some ⟨g, 0, none⟩) (a.length + 1) c) y ∧
      Two W Z T (cs.setIfInBounds j (.slice (some ⟨g, 0, none⟩) (a.length + 1) c)) (.slice (some ⟨g, 0, none⟩) (a.length + 1) c) v2 (a ++ [t]) b (y.setCell ⟨Z, j, none⟩ (.slice (some ⟨g, 0, none⟩) (a.length + 1) c)) ∧ y.cell? ⟨Z, j, none⟩ = some v1 ∧ y.frozen? ⟨Z, j, none⟩ = false ∧ Below W.heap.size W y ∧ ∀ g' T' cs', T' ≠ 9 → g' ≠ Z → Bxs x g' T' cs' → Bxs y g' T' cs' ∧ Bxs (y.setCell ⟨Z, j, none⟩ (.slice (some ⟨g, 0, none⟩) (a.length + 1) c)) g' T' cs' := by
  obtain ⟨g, c, y, h1, h2, h3, h4⟩ := app_str x W.heap.size v1 a h.own1 t hl h.bel.size
  have hb : Bxs y Z T cs := (h.box.alloc _).grown h3 (Ne.symm (ownR_ne h.own1 h.box h.hT))
  have hB : Below W.heap.size W y := (h.bel.alloc h.bel.size _).grown h3 (by have := h.bel.size; rw [szA]; omega) (fun j hj => (h.own1.lt j hj).1)
  have o2 : y.ownsRow W.heap.size 9 1 v2 b.length (strRow b) := ownR_grown (h.own2.alloc _) h3 (fun g' hg' he => h.ap g' he hg')
  have hap : ∀ g', (Value.slice (some ⟨g, 0, none⟩) (a.length + 1) c).ownBlock = some g' → v2.ownBlock ≠ some g' := by
    intro g' hg' he
    have : g = g' := by simpa [Value.ownBlock] using hg'
    subst this
    rcases h4 with h4 | h4
    · exact h.ap g h4 he
    · have := (h.own2.lt g he).2; omega
  refine ⟨g, c, y, h1, ⟨hB.setCell h.hZ _, h.hZ, h.hT, hb.set j _, ownsRow_setCell_other h2 (ownR_ne h2 hb h.hT) _, ownsRow_setCell_other o2 (ownR_ne o2 hb h.hT) _, hap⟩, ?_, hb.fr j, hB, ?_⟩
  · rw [hb.cell j]; exact hj
  · intro g' T' cs' hT' hne hK
    have hk := (hK.alloc (.cells #[.string t] 9)).grown h3 (Ne.symm (ownR_ne h.own1 hK hT'))
    exact ⟨hk, hk.other _ _ (Ne.symm hne) _⟩
theorem Two.app {W : World} {Z : Nat} {T : TypeId} {cs : Array Value} {v1 v2 : Value} {a b : List ByteArray} {x : World} (h : Two W Z T cs v1 v2 a b x) (j : Nat) (t : ByteArray) (hj : cs[j]? = some v1) (hl : a.length + 1 ≤ 1048576) :
    ∃ g c y, (Builtin.append_ #[23, 23] 23 #[v1, .slice (some ⟨x.heap.size, 0, none⟩) 1 1]).run Tryz.prog (x.alloc (.cells #[.string t] 9)) = .ok (.slice (some ⟨g, 0, none⟩) (a.length + 1) c) y ∧
      Two W Z T (cs.setIfInBounds j (.slice (some ⟨g, 0, none⟩) (a.length + 1) c)) (.slice (some ⟨g, 0, none⟩) (a.length + 1) c) v2 (a ++ [t]) b (y.setCell ⟨Z, j, none⟩ (.slice (some ⟨g, 0, none⟩) (a.length + 1) c)) ∧ y.cell? ⟨Z, j, none⟩ = some v1 ∧ y.frozen? ⟨Z, j, none⟩ = false ∧ Below W.heap.size W y := by
  obtain ⟨g, c, y, h1, h2, h3, h4, h5, -⟩ := h.app2 j t hj hl
  exact ⟨g, c, y, h1, h2, h3, h4, h5⟩
/-- What is shown. -/
structure Shw where
  k : ByteArray
  at_ : Int
  ns : List ByteArray
  cs : List ByteArray
  ix : Int
  s : ByteArray
  v : ByteArray
def shwZ : Shw := ⟨ByteArray.empty, 0, [], [], 0, ByteArray.empty, ByteArray.empty⟩
/-- Its two rows are the call's own, and apart. -/
def ShwO (base : Nat) (o : Shw) (v1 v2 : Value) (w : World) : Prop := w.ownsRow base 9 1 v1 o.ns.length (strRow o.ns) ∧ w.ownsRow base 9 1 v2 o.cs.length (strRow o.cs) ∧ ∀ g, v1.ownBlock = some g → v2.ownBlock ≠ some g
theorem ShwO.nil (base : Nat) (w : World) : ShwO base shwZ (.slice none 0 0) (.slice none 0 0) w := ⟨World.ownsRow_nil _ _ _ _, World.ownsRow_nil _ _ _ _, fun g hg => by cases hg⟩
def set8 (w : World) (g : Nat) (x0 x1 x2 x3 x4 x5 x6 x7 : Value) : World := (((((((w.setCell ⟨g, 0, none⟩ x0).setCell ⟨g, 1, none⟩ x1).setCell ⟨g, 2, none⟩ x2).setCell ⟨g, 3, none⟩ x3).setCell ⟨g, 4, none⟩ x4).setCell ⟨g, 5, none⟩ x5).setCell ⟨g, 6, none⟩ x6).setCell ⟨g, 7, none⟩ x7
theorem below_set8 {B : Nat} {a w : World} (h : Below B a w) {g : Nat} (hg : B ≤ g) (x0 x1 x2 x3 x4 x5 x6 x7 : Value) : Below B a (set8 w g x0 x1 x2 x3 x4 x5 x6 x7) := (((((((h.setCell hg _).setCell hg _).setCell hg _).setCell hg _).setCell hg _).setCell hg _).setCell hg _).setCell hg _
theorem own_set8 {w : World} {base g : Nat} {e : TypeId} {s : Nat} {v : Value} {n : Nat} {xs : List Value} (h : w.ownsRow base e s v n xs) (hg : g < base) (x0 x1 x2 x3 x4 x5 x6 x7 : Value) : (set8 w g x0 x1 x2 x3 x4 x5 x6 x7).ownsRow base e s v n xs :=
  ownsRow_setCell_below (ownsRow_setCell_below (ownsRow_setCell_below (ownsRow_setCell_below (ownsRow_setCell_below (ownsRow_setCell_below (ownsRow_setCell_below (ownsRow_setCell_below h hg _) hg _) hg _) hg _) hg _) hg _) hg _) hg _
theorem Bxs.eight {w : World} {g : Nat} {T : TypeId} {a b c d e f h i : Value} (k : Bxs w g T #[a, b, c, d, e, f, h, i]) : w.cell? ⟨g, 0, none⟩ = some a ∧ w.cell? ⟨g, 1, none⟩ = some b ∧ w.cell? ⟨g, 2, none⟩ = some c ∧ w.cell? ⟨g, 3, none⟩ = some d ∧ w.cell? ⟨g, 4, none⟩ = some e ∧ w.cell? ⟨g, 5, none⟩ = some f ∧ w.cell? ⟨g, 6, none⟩ = some h ∧ w.cell? ⟨g, 7, none⟩ = some i := ⟨k.cell 0, k.cell 1, k.cell 2, k.cell 3, k.cell 4, k.cell 5, k.cell 6, k.cell 7⟩
theorem Bxs.free8 {w : World} {g : Nat} {T : TypeId} {cs : Array Value} (k : Bxs w g T cs) : w.frozen? ⟨g, 0, none⟩ = false ∧ w.frozen? ⟨g, 1, none⟩ = false ∧ w.frozen? ⟨g, 2, none⟩ = false ∧ w.frozen? ⟨g, 3, none⟩ = false ∧ w.frozen? ⟨g, 4, none⟩ = false ∧ w.frozen? ⟨g, 5, none⟩ = false ∧ w.frozen? ⟨g, 6, none⟩ = false ∧ w.frozen? ⟨g, 7, none⟩ = false := ⟨k.fr 0, k.fr 1, k.fr 2, k.fr 3, k.fr 4, k.fr 5, k.fr 6, k.fr 7⟩
theorem TxtAt.some_of7 {w : World} {p : Option Addr} {ss : List ByteArray} (h : TxtAt w p ss) (h0 : 0 < ss.length) : ∃ b off, p = some ⟨b, off, none⟩ ∧ b < w.heap.size := by
  obtain ⟨b, off, rfl, hb, -⟩ := h 0 h0
  exact ⟨b, off, rfl, hb⟩
end Go.Proofs.YtpijadhfdpihkaaGreatDoor
/-
  A field put behind a row of fields of one's own; a box with such a row.
-/
namespace Go.Proofs.YtpijadhfdpihkaaGreatDoor
open Go.RowKit Go.Lib
set_option linter.unusedVariables false

theorem infoFld : (Tryz.prog.info? 63).map (fun i => (i.zero, i.size, i.bytes)) = some (some (.agg #[.string ByteArray.empty, .string ByteArray.empty, .string ByteArray.empty, .string ByteArray.empty, .bool false]), 5, 72) := by kernel_rfl
theorem app_fld (w : World) (base : Nat) (v : Value) (l : List Fld) (own : w.ownsRow base 63 5 v l.length (fldRow l)) (fn fc fs fv : ByteArray) (fg : Bool) (hl : l.length + 1 ≤ 1048576) (hbase : base ≤ w.heap.size) :
    ∃ g c w', (Builtin.append_ #[59, 59] 59 #[v, .slice (some ⟨w.heap.size, 0, none⟩) 1 1]).run Tryz.prog (w.alloc (.cells #[.string fn, .string fc, .string fs, .string fv, .bool fg] 63)) = .ok (.slice (some ⟨g, 0, none⟩) (l.length + 1) c) w' ∧
      w'.ownsRow base 63 5 (.slice (some ⟨g, 0, none⟩) (l.length + 1) c) (l ++ [(⟨fn, fc, fs, fv, fg⟩ : Fld)]).length (fldRow (l ++ [(⟨fn, fc, fs, fv, fg⟩ : Fld)])) ∧ (w.alloc (.cells #[.string fn, .string fc, .string fs, .string fv, .bool fg] 63)).grownBy w' v.ownBlock ∧ (v.ownBlock = some g ∨ g = w.heap.size + 1) := by
  obtain ⟨i0, hi, hz0, hz1, hz2⟩ := info_parts infoFld
  obtain ⟨g, c, w', h1, h2, h3, h4, _⟩ := run_append_lies (P := Tryz.prog) (w.alloc (.cells #[.string fn, .string fc, .string fs, .string fv, .bool fg] 63)) 59 59 base 63 i0 _ 5 72 Tryz.underlying59 hi hz0 hz1 hz2 rfl (by omega) v l.length (fldRow l) (own.alloc _) ⟨w.heap.size, 0, none⟩ 1 1 (fldRow [(⟨fn, fc, fs, fv, fg⟩ : Fld)]) rfl (fun j u hu => by
      have hj : j < 5 := by
        rcases Nat.lt_or_ge j 5 with q | q
        · exact q
        · rw [List.getElem?_eq_none (by rw [fldRow_len]; exact q)] at hu; cases hu
      have hadd : (⟨w.heap.size, 0, none⟩ : Addr).add j = ⟨w.heap.size, 0 + j, none⟩ := by unfold Addr.add; split <;> simp_all
      rw [hadd, Nat.zero_add, World.cell?_alloc_mark]
      match j, hj with
      | 0, _ => exact hu
      | 1, _ => exact hu
      | 2, _ => exact hu
      | 3, _ => exact hu
      | 4, _ => exact hu) (fun u hu => by
      simp [fldRow, fldCells] at hu
      rcases hu with rfl | rfl | rfl | rfl | rfl <;> rfl) (by omega) (by unfold maxLen; omega) (by omega) (by simp; omega) (w.heap.size + 1) (by simp)
  refine ⟨g, c, w', h1, ?_, h3, h4⟩
  have e1 : (l ++ [(⟨fn, fc, fs, fv, fg⟩ : Fld)]).length = l.length + 1 := by simp
  rw [e1, fldRow_append]; exact h2
/-- A box with one row of fields of its own. -/
structure One7 (W : World) (Z : Nat) (T : TypeId) (cs : Array Value) (v : Value) (l : List Fld) (x : World) : Prop where
  bel : Below W.heap.size W x
  hZ : W.heap.size ≤ Z
  hT : T ≠ 63
  box : Bxs x Z T cs
  own : x.ownsRow W.heap.size 63 5 v l.length (fldRow l)
theorem One7.below {W : World} {Z : Nat} {T : TypeId} {cs : Array Value} {v : Value} {l : List Fld} {x y : World} (h : One7 W Z T cs v l x) (hb : Below x.heap.size x y) : One7 W Z T cs v l y := ⟨chainB h.bel hb, h.hZ, h.hT, h.box.below hb, ownS_below h.own hb⟩
theorem One7.app2 {W : World} {Z : Nat} {T : TypeId} {cs : Array Value} {v : Value} {l : List Fld} {x : World} (h : One7 W Z T cs v l x) (j : Nat) (fn fc fs fv : ByteArray) (fg : Bool) (hj : cs[j]? = some v) (hl : l.length + 1 ≤ 1048576) :
    ∃ g c y, (Builtin.append_ #[59, 59] 59 #[v, .slice (some ⟨x.heap.size, 0, none⟩) 1 1]).run Tryz.prog (x.alloc (.cells #[.string fn, .string fc, .string fs, .string fv, .bool fg] 63)) = .ok (.slice (some ⟨g, 0, none⟩) (l.length + 1) c) y ∧
      One7 W Z T (cs.setIfInBounds j (.slice (some ⟨g, 0, none⟩) (l.length + 1) c)) (.slice (some ⟨g, 0, none⟩) (l.length + 1) c) (l ++ [⟨fn, fc, fs, fv, fg⟩]) (y.setCell ⟨Z, j, none⟩ (.slice (some ⟨g, 0, none⟩) (l.length + 1) c)) ∧ y.cell? ⟨Z, j, none⟩ = some v ∧ y.frozen? ⟨Z, j, none⟩ = false ∧ Below W.heap.size W y ∧ (x.alloc (.cells #[.string fn, .string fc, .string fs, .string fv, .bool fg] 63)).grownBy y v.ownBlock := by
  obtain ⟨g, c, y, h1, h2, h3, h4⟩ := app_fld x W.heap.size v l h.own fn fc fs fv fg hl h.bel.size
  have hb : Bxs y Z T cs := (h.box.alloc _).grown h3 (Ne.symm (ownR_ne h.own h.box h.hT))
  have hB : Below W.heap.size W y := (h.bel.alloc h.bel.size _).grown h3 (by have := h.bel.size; rw [szA]; omega) (fun j hj => (h.own.lt j hj).1)
  refine ⟨g, c, y, h1, ⟨hB.setCell h.hZ _, h.hZ, h.hT, hb.set j _, ownsRow_setCell_other h2 (ownR_ne h2 hb h.hT) _⟩, ?_, hb.fr j, hB, h3⟩
  rw [hb.cell j]; exact hj
theorem One7.app {W : World} {Z : Nat} {T : TypeId} {cs : Array Value} {v : Value} {l : List Fld} {x : World} (h : One7 W Z T cs v l x) (j : Nat) (fn fc fs fv : ByteArray) (fg : Bool) (hj : cs[j]? = some v) (hl : l.length + 1 ≤ 1048576) :
    ∃ g c y, (Builtin.append_ #[59, 59] 59 #[v, .slice (some ⟨x.heap.size, 0, none⟩) 1 1]).run Tryz.prog (x.alloc (.cells #[.string fn, .string fc, .string fs, .string fv, .bool fg] 63)) = .ok (.slice (some ⟨g, 0, none⟩) (l.length + 1) c) y ∧
      One7 W Z T (cs.setIfInBounds j (.slice (some ⟨g, 0, none⟩) (l.length + 1) c)) (.slice (some ⟨g, 0, none⟩) (l.length + 1) c) (l ++ [⟨fn, fc, fs, fv, fg⟩]) (y.setCell ⟨Z, j, none⟩ (.slice (some ⟨g, 0, none⟩) (l.length + 1) c)) ∧ y.cell? ⟨Z, j, none⟩ = some v ∧ y.frozen? ⟨Z, j, none⟩ = false ∧ Below W.heap.size W y := by
  obtain ⟨g, c, y, h1, h2, h3, h4, h5, -⟩ := h.app2 j fn fc fs fv fg hj hl
  exact ⟨g, c, y, h1, h2, h3, h4, h5⟩
end Go.Proofs.YtpijadhfdpihkaaGreatDoor
/-
  What forgetting leaves, as plain functions; a field put into a row of fields of one's own.
-/
namespace Go.Proofs.YtpijadhfdpihkaaGreatDoor
open Go.RowKit Go.Lib
set_option linter.unusedVariables false

theorem fldRow_set : ∀ (fs : List Fld) (i : Nat) (f : Fld), (((((fldRow fs).set (i * 5) (.string f.n)).set (i * 5 + 1) (.string f.c)).set (i * 5 + 2) (.string f.s)).set (i * 5 + 3) (.string f.v)).set (i * 5 + 4) (.bool f.g) = fldRow (fs.set i f)
  | [], i, f => by simp [fldRow]
  | g :: fs, 0, f => rfl
  | g :: fs, i + 1, f => by
    have ih := fldRow_set fs i f
    rw [show (i + 1) * 5 = i * 5 + 5 by omega, show i * 5 + 5 + 1 = i * 5 + 1 + 5 by omega, show i * 5 + 5 + 2 = i * 5 + 2 + 5 by omega, show i * 5 + 5 + 3 = i * 5 + 3 + 5 by omega, show i * 5 + 5 + 4 = i * 5 + 4 + 5 by omega]
    show .string g.n :: .string g.c :: .string g.s :: .string g.v :: .bool g.g :: _ = .string g.n :: .string g.c :: .string g.s :: .string g.v :: .bool g.g :: fldRow (fs.set i f)
    rw [← ih]; rfl
def set5 (w : World) (g o : Nat) (f : Fld) : World := ((((w.setCell ⟨g, o, none⟩ (.string f.n)).setCell ⟨g, o + 1, none⟩ (.string f.c)).setCell ⟨g, o + 2, none⟩ (.string f.s)).setCell ⟨g, o + 3, none⟩ (.string f.v)).setCell ⟨g, o + 4, none⟩ (.bool f.g)
theorem own_set5 {w : World} {base b n cc : Nat} {fs : List Fld} (h : w.ownsRow base 63 5 (.slice (some ⟨b, 0, none⟩) n cc) n (fldRow fs)) (i : Nat) (f : Fld) : (set5 w b (i * 5) f).ownsRow base 63 5 (.slice (some ⟨b, 0, none⟩) n cc) n (fldRow (fs.set i f)) := by
  have h1 := (h.stored (i * 5) (.string f.n)).1
  have h2 := (h1.stored (i * 5 + 1) (.string f.c)).1
  have h3 := (h2.stored (i * 5 + 2) (.string f.s)).1
  have h4 := (h3.stored (i * 5 + 3) (.string f.v)).1
  have h5 := (h4.stored (i * 5 + 4) (.bool f.g)).1
  rw [fldRow_set] at h5
  exact h5
theorem set5_other {w : World} {g b o : Nat} {T : TypeId} {cs : Array Value} (h : Bxs w g T cs) (hne : b ≠ g) (f : Fld) : Bxs (set5 w b o f) g T cs := ((((h.other b _ hne _).other b _ hne _).other b _ hne _).other b _ hne _).other b _ hne _
theorem set5_below {B : Nat} {a w : World} (h : Below B a w) {g : Nat} (hg : B ≤ g) (o : Nat) (f : Fld) : Below B a (set5 w g o f) := ((((h.setCell hg _).setCell hg _).setCell hg _).setCell hg _).setCell hg _
/-! ### What Forget answers -/
def fldD : Fld := ⟨ByteArray.empty, ByteArray.empty, ByteArray.empty, ByteArray.empty, false⟩
def fgC (k : ByteArray) (at_ : Int) (fs : List Fld) (i : Int) : Int := if rwB k at_ fs = true then (if 0 ≤ i ∧ i ≤ (fs.length : Int) - 1 then (if (fs.getD i.toNat fldD).g = true then 7 else 0) else 6) else 1
def fgK (k : ByteArray) (at_ : Int) (fs : List Fld) (i : Int) : ByteArray := if fgC k at_ fs i = 0 then k else ByteArray.empty
def fgA (k : ByteArray) (at_ : Int) (fs : List Fld) (i : Int) : Int := if fgC k at_ fs i = 0 then at_ else 0
def fgF (k : ByteArray) (at_ : Int) (fs : List Fld) (i : Int) : List Fld := if fgC k at_ fs i = 0 then fs.set i.toNat (goneF (fs.getD i.toNat fldD)) else []
end Go.Proofs.YtpijadhfdpihkaaGreatDoor
/-
  A block of fields that was made, and is written field by field.
-/
namespace Go.Proofs.YtpijadhfdpihkaaGreatDoor
open Go.RowKit Go.Lib
set_option linter.unusedVariables false

def fldE5 : Fld := ⟨ByteArray.empty, ByteArray.empty, ByteArray.empty, ByteArray.empty, false⟩
/-- A block that holds these fields, and nothing else. -/
def BlkF (w : World) (g : Nat) (l : List Fld) : Prop := Bxs w g 63 (fldRow l).toArray
theorem BlkF.below {w w' : World} {g : Nat} {l : List Fld} (h : BlkF w g l) (hb : Below w.heap.size w w') : BlkF w' g l := Bxs.below h hb
theorem BlkF.cells {w : World} {g : Nat} {l : List Fld} (h : BlkF w g l) (i : Nat) (hi : i < l.length) : (w.cell? ⟨g, i * 5, none⟩ = some (.string l[i].n) ∧ w.cell? ⟨g, i * 5 + 1, none⟩ = some (.string l[i].c) ∧ w.cell? ⟨g, i * 5 + 2, none⟩ = some (.string l[i].s) ∧ w.cell? ⟨g, i * 5 + 3, none⟩ = some (.string l[i].v) ∧ w.cell? ⟨g, i * 5 + 4, none⟩ = some (.bool l[i].g)) ∧ w.frozen? ⟨g, i * 5, none⟩ = false ∧ w.frozen? ⟨g, i * 5 + 1, none⟩ = false ∧ w.frozen? ⟨g, i * 5 + 2, none⟩ = false ∧ w.frozen? ⟨g, i * 5 + 3, none⟩ = false ∧ w.frozen? ⟨g, i * 5 + 4, none⟩ = false := by
  have hr := fldRow_at l i hi
  have hc : ∀ j, w.cell? ⟨g, j, none⟩ = (fldRow l)[j]? := fun j => by rw [Bxs.cell h j]; simp
  rw [← hc, ← hc, ← hc, ← hc, ← hc] at hr
  exact ⟨hr, Bxs.fr h _, Bxs.fr h _, Bxs.fr h _, Bxs.fr h _, Bxs.fr h _⟩
theorem BlkF.at {w : World} {g : Nat} {l : List Fld} (h : BlkF w g l) : FldAt w (some ⟨g, 0, none⟩) l := fun i hi => ⟨g, 0, rfl, Bxs.lt h, by rw [Nat.zero_add]; exact (h.cells i hi).1⟩
theorem BlkF.set1 {w : World} {g : Nat} {l : List Value} (h : Bxs w g 63 l.toArray) (j : Nat) (v : Value) : Bxs (w.setCell ⟨g, j, none⟩ v) g 63 (l.set j v).toArray := by
  have h1 := h.set j v
  rwa [List.setIfInBounds_toArray] at h1
theorem BlkF.set5 {w : World} {g : Nat} {l : List Fld} (h : BlkF w g l) (i : Nat) (f : Fld) : BlkF (set5 w g (i * 5) f) g (l.set i f) := by
  unfold BlkF
  rw [← fldRow_set]
  exact BlkF.set1 (BlkF.set1 (BlkF.set1 (BlkF.set1 (BlkF.set1 h _ _) _ _) _ _) _ _) _ _
theorem fldRow_set3 : ∀ (fs : List Fld) (i : Nat) (h : i < fs.length) (s v : ByteArray) (g : Bool), ((((fldRow fs).set (i * 5 + 2) (.string s)).set (i * 5 + 3) (.string v)).set (i * 5 + 4) (.bool g)) = fldRow (fs.set i ⟨fs[i].n, fs[i].c, s, v, g⟩)
  | f :: fs, 0, _, s, v, g => by simp [fldRow, fldCells]
  | f :: fs, i + 1, h, s, v, g => by
    have ih := fldRow_set3 fs i (by simpa using h) s v g
    have e1 : (i + 1) * 5 + 2 = i * 5 + 2 + 5 := by omega
    have e2 : (i + 1) * 5 + 3 = i * 5 + 3 + 5 := by omega
    have e3 : (i + 1) * 5 + 4 = i * 5 + 4 + 5 := by omega
    have e4 : fldRow (f :: fs) = .string f.n :: .string f.c :: .string f.s :: .string f.v :: .bool f.g :: fldRow fs := rfl
    rw [e1, e2, e3, e4]
    simp only [List.set_cons_succ, List.getElem_cons_succ]
    rw [ih]; rfl
theorem BlkF.set3 {w : World} {g : Nat} {l : List Fld} (h : BlkF w g l) (i : Nat) (hi : i < l.length) (s v : ByteArray) (b : Bool) : BlkF (((w.setCell ⟨g, i * 5 + 2, none⟩ (.string s)).setCell ⟨g, i * 5 + 3, none⟩ (.string v)).setCell ⟨g, i * 5 + 4, none⟩ (.bool b)) g (l.set i ⟨l[i].n, l[i].c, s, v, b⟩) := by
  unfold BlkF
  rw [← fldRow_set3 l i hi]
  exact BlkF.set1 (BlkF.set1 (BlkF.set1 h _ _) _ _) _ _
theorem made_fld (n : Nat) : madeCells #[.string ByteArray.empty, .string ByteArray.empty, .string ByteArray.empty, .string ByteArray.empty, .bool false] (n * 5) = (fldRow (List.replicate n fldE5)).toArray := by
  unfold madeCells
  apply Array.ext
  · simp [fldRow_len]
  · intro i h0 h2
    have h1 : i < n * 5 := by simpa using h0
    have hr := fldRow_at (List.replicate n fldE5) (i / 5) (by rw [List.length_replicate]; omega)
    simp only [List.getElem_replicate] at hr
    have hm : i % 5 < 5 := Nat.mod_lt _ (by omega)
    have hd : i = i / 5 * 5 + i % 5 := by omega
    have hl : i < (fldRow (List.replicate n fldE5)).length := by simpa using h2
    have hg : ∀ v, (fldRow (List.replicate n fldE5))[i]? = some v → (fldRow (List.replicate n fldE5)).toArray[i] = v := fun v hv => by
      rw [List.getElem?_eq_getElem hl] at hv
      have := Option.some.inj hv
      simpa using this
    simp only [Array.getElem_map, Array.getElem_range]
    match hq : i % 5, hm with
    | 0, _ => rw [hq] at hd; rw [hg _ (by rw [hd]; exact hr.1)]; simp [fldE5]
    | 1, _ => rw [hq] at hd; rw [hg _ (by rw [hd]; exact hr.2.1)]; simp [fldE5]
    | 2, _ => rw [hq] at hd; rw [hg _ (by rw [hd]; exact hr.2.2.1)]; simp [fldE5]
    | 3, _ => rw [hq] at hd; rw [hg _ (by rw [hd]; exact hr.2.2.2.1)]; simp [fldE5]
    | 4, _ => rw [hq] at hd; rw [hg _ (by rw [hd]; exact hr.2.2.2.2)]; simp [fldE5]
theorem run_make_fld (n : Nat) (hn : n ≤ 1048576) (w : World) :
    (Instr.makeSlice 59 (.int .i64 (n : Int)) (.int .i64 (n : Int))).run Tryz.prog w = .ok (.slice (some ⟨w.heap.size, 0, none⟩) n n) (w.alloc (.cells (fldRow (List.replicate n fldE5)).toArray 63)) := by
  obtain ⟨i0, hi, hz0, hz1, hz2⟩ := info_parts infoFld
  have := run_make (P := Tryz.prog) w 59 63 i0 _ Tryz.underlying59 hi hz0 .i64 .i64 (n : Int) (n : Int) (by omega) (by omega) (by rw [hz2]; omega) (by omega)
  rw [this, hz1]
  simp only [Int.toNat_natCast]
  rw [← made_fld]; rfl
theorem alloc_fld (w : World) (l : List Fld) : BlkF (w.alloc (.cells (fldRow l).toArray 63)) w.heap.size l := (MapKept.heap_alloc w _).1
end Go.Proofs.YtpijadhfdpihkaaGreatDoor
