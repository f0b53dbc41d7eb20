/-
  What is shown of a row: two rows of texts of its own in a box, apart; append of one text.
-/
import Derived.Test.YteiffjpmccbcoaaGreatDoorRows
import Derived.Test.YteiffjpmccbcoaaGreatDoorBytes
import Derived.Test.YteiffjpmccbcoaaGreatDoorSlA
import Derived.Test.YteiffjpmccbcoaaGreatDoorSlB
import Derived.Test.YteiffjpmccbcoaaGreatDoorOwnS
import Derived.Test.YteiffjpmccbcoaaGreatDoorBxK
import Derived.Test.YteiffjpmccbcoaaGreatDoorFldMath
import Derived.Handy
import Derived.OwnWalk
import Derived.Deep.AppendLies
namespace Go.Proofs.YteiffjpmccbcoaaGreatDoor
open Go.RowKit Go.Lib
set_option linter.unusedVariables false
set_option maxRecDepth 20000

theorem infoStr7 : (Tryz.prog.info? 9).map (fun i => (i.zero, i.size, i.bytes)) = some (some (.string ByteArray.empty), 1, 16) := by kernel_rfl
theorem app_str (w : World) (base : Nat) (v : Value) (l : List ByteArray) (own : w.ownsRow base 9 1 v l.length (strRow l)) (t : ByteArray) (hl : l.length + 1 ≤ 1048576) (hbase : base ≤ w.heap.size) :
    ∃ g c w', (Builtin.append_ #[22, 22] 22 #[v, .slice (some ⟨w.heap.size, 0, none⟩) 1 1]).run Tryz.prog (w.alloc (.cells #[.string t] 9)) = .ok (.slice (some ⟨g, 0, none⟩) (l.length + 1) c) w' ∧
      w'.ownsRow base 9 1 (.slice (some ⟨g, 0, none⟩) (l.length + 1) c) (l ++ [t]).length (strRow (l ++ [t])) ∧ (w.alloc (.cells #[.string t] 9)).grownBy w' v.ownBlock ∧ (v.ownBlock = some g ∨ g = w.heap.size + 1) := by
  obtain ⟨i0, hi, hz0, hz1, hz2⟩ := info_parts infoStr7
  obtain ⟨g, c, w', h1, h2, h3, h4, _⟩ := run_append_lies (P := Tryz.prog) (w.alloc (.cells #[.string t] 9)) 22 22 base 9 i0 _ 1 16 Tryz.underlying22 hi hz0 hz1 hz2 rfl (by omega) v l.length (strRow l) (own.alloc _) ⟨w.heap.size, 0, none⟩ 1 1 [.string t] rfl (fun j u hu => by
      have hj : j < 1 := by
        rcases Nat.lt_or_ge j 1 with q | q
        · exact q
        · rw [List.getElem?_eq_none (by exact q)] at hu; cases hu
      have hadd : (⟨w.heap.size, 0, none⟩ : Addr).add j = ⟨w.heap.size, 0 + j, none⟩ := by unfold Addr.add; split <;> simp_all
      rw [hadd, Nat.zero_add, World.cell?_alloc_mark]
      match j, hj with
      | 0, _ => exact hu) (fun u hu => by
      simp at hu
      subst hu; rfl) (by omega) (by unfold maxLen; omega) (by omega) (by simp; omega) (w.heap.size + 1) (by simp)
  refine ⟨g, c, w', h1, ?_, h3, h4⟩
  have e1 : (l ++ [t]).length = l.length + 1 := by simp
  have e2 : strRow (l ++ [t]) = strRow l ++ [.string t] := by simp [strRow]
  rw [e1, e2]; exact h2
theorem ownR_ne {w : World} {base g : Nat} {e T : TypeId} {s : Nat} {v : Value} {n : Nat} {xs : List Value} {cs : Array Value} (h : w.ownsRow base e s v n xs) (hb : Bxs w g T cs) (hne : T ≠ e) : v.ownBlock ≠ some g := by
  intro he
  rcases h.2 with ⟨rfl, _⟩ | ⟨g', cap, cur, rfl, _, hg', _⟩
  · cases he
  · have : g' = g := by simpa [Value.ownBlock] using he
    subst this
    unfold Bxs at hb
    rw [hb] at hg'
    injection hg' with h1
    injection h1 with h2 h3
    exact hne h3
theorem ownR_grown {w w' : World} {base : Nat} {e : TypeId} {s : Nat} {v : Value} {n : Nat} {xs : List Value} (h : w.ownsRow base e s v n xs) {row : Option Nat} (hg : w.grownBy w' row) (hne : ∀ g, v.ownBlock = some g → row ≠ some g) : w'.ownsRow base e s v n xs := by
  refine ⟨h.1, ?_⟩
  rcases h.2 with h0 | ⟨g, cap, cur, rfl, h2, h3, h4⟩
  · exact .inl h0
  · exact .inr ⟨g, cap, cur, rfl, h2, (hg.block g (lt_of_block h3) (Ne.symm (hne g rfl))).trans h3, h4⟩
/-- A box with two rows of texts of its own, apart. -/
structure Two (W : World) (Z : Nat) (T : TypeId) (cs : Array Value) (v1 v2 : Value) (a b : List ByteArray) (x : World) : Prop where
  bel : Below W.heap.size W x
  hZ : W.heap.size ≤ Z
  hT : T ≠ 9
  box : Bxs x Z T cs
  own1 : x.ownsRow W.heap.size 9 1 v1 a.length (strRow a)
  own2 : x.ownsRow W.heap.size 9 1 v2 b.length (strRow b)
  ap : ∀ g, v1.ownBlock = some g → v2.ownBlock ≠ some g
theorem Two.below {W : World} {Z : Nat} {T : TypeId} {cs : Array Value} {v1 v2 : Value} {a b : List ByteArray} {x y : World} (h : Two W Z T cs v1 v2 a b x) (hb : Below x.heap.size x y) : Two W Z T cs v1 v2 a b y :=
  ⟨chainB h.bel hb, h.hZ, h.hT, h.box.below hb, ownS_below h.own1 hb, ownS_below h.own2 hb, h.ap⟩
theorem Two.swap {W : World} {Z : Nat} {T : TypeId} {cs : Array Value} {v1 v2 : Value} {a b : List ByteArray} {x : World} (h : Two W Z T cs v1 v2 a b x) : Two W Z T cs v2 v1 b a x :=
  ⟨h.bel, h.hZ, h.hT, h.box, h.own2, h.own1, fun g hg he => h.ap g he hg⟩
theorem Two.put {W : World} {Z : Nat} {T : TypeId} {cs : Array Value} {v1 v2 : Value} {a b : List ByteArray} {x : World} (h : Two W Z T cs v1 v2 a b x) (j : Nat) (u : Value) : Two W Z T (cs.setIfInBounds j u) v1 v2 a b (x.setCell ⟨Z, j, none⟩ u) :=
  ⟨h.bel.setCell h.hZ _, h.hZ, h.hT, h.box.set j u, ownsRow_setCell_other h.own1 (ownR_ne h.own1 h.box h.hT) _, ownsRow_setCell_other h.own2 (ownR_ne h.own2 h.box h.hT) _, h.ap⟩
/-- One text is put behind the first row, and the row into the box. -/
theorem Two.app2 {W : World} {Z : Nat} {T : TypeId} {cs : Array Value} {v1 v2 : Value} {a b : List ByteArray} {x : World} (h : Two W Z T cs v1 v2 a b x) (j : Nat) (t : ByteArray) (hj : cs[j]? = some v1) (hl : a.length + 1 ≤ 1048576) :
    ∃ g c y, (Builtin.append_ #[22, 22] 22 #[v1, .slice (some ⟨x.heap.size, 0, none⟩) 1 1]).run Tryz.prog (x.alloc (.cells #[.string t] 9)) = .ok (.slice (some ⟨g, 0, none⟩) (a.length + 1) c) y ∧
      Two W Z T (cs.setIfInBounds j (.slice (some ⟨g, 0, none⟩) (a.length + 1) c)) (.slice (some ⟨g, 0, none⟩) (a.length + 1) c) v2 (a ++ [t]) b (y.setCell ⟨Z, j, none⟩ (.slice (some ⟨g, 0, none⟩) (a.length + 1) c)) ∧ y.cell? ⟨Z, j, none⟩ = some v1 ∧ y.frozen? ⟨Z, j, none⟩ = false ∧ Below W.heap.size W y ∧ ∀ g' T' cs', T' ≠ 9 → g' ≠ Z → Bxs x g' T' cs' → Bxs y g' T' cs' ∧ Bxs (y.setCell ⟨Z, j, none⟩ (.slice (some ⟨g, 0, none⟩) (a.length + 1) c)) g' T' cs' := by
  obtain ⟨g, c, y, h1, h2, h3, h4⟩ := app_str x W.heap.size v1 a h.own1 t hl h.bel.size
  have hb : Bxs y Z T cs := (h.box.alloc _).grown h3 (Ne.symm (ownR_ne h.own1 h.box h.hT))
  have hB : Below W.heap.size W y := (h.bel.alloc h.bel.size _).grown h3 (by have := h.bel.size; rw [szA]; omega) (fun j hj => (h.own1.lt j hj).1)
  have o2 : y.ownsRow W.heap.size 9 1 v2 b.length (strRow b) := ownR_grown (h.own2.alloc _) h3 (fun g' hg' he => h.ap g' he hg')
  have hap : ∀ g', (Value.slice (some ⟨g, 0, none⟩) (a.length + 1) c).ownBlock = some g' → v2.ownBlock ≠ some g' := by
    intro g' hg' he
    have : g = g' := by simpa [Value.ownBlock] using hg'
    subst this
    rcases h4 with h4 | h4
    · exact h.ap g h4 he
    · have := (h.own2.lt g he).2; omega
  refine ⟨g, c, y, h1, ⟨hB.setCell h.hZ _, h.hZ, h.hT, hb.set j _, ownsRow_setCell_other h2 (ownR_ne h2 hb h.hT) _, ownsRow_setCell_other o2 (ownR_ne o2 hb h.hT) _, hap⟩, ?_, hb.fr j, hB, ?_⟩
  · rw [hb.cell j]; exact hj
  · intro g' T' cs' hT' hne hK
    have hk := (hK.alloc (.cells #[.string t] 9)).grown h3 (Ne.symm (ownR_ne h.own1 hK hT'))
    exact ⟨hk, hk.other _ _ (Ne.symm hne) _⟩
theorem Two.app {W : World} {Z : Nat} {T : TypeId} {cs : Array Value} {v1 v2 : Value} {a b : List ByteArray} {x : World} (h : Two W Z T cs v1 v2 a b x) (j : Nat) (t : ByteArray) (hj : cs[j]? = some v1) (hl : a.length + 1 ≤ 1048576) :
    ∃ g c y, (Builtin.append_ #[22, 22] 22 #[v1, .slice (some ⟨x.heap.size, 0, none⟩) 1 1]).run Tryz.prog (x.alloc (.cells #[.string t] 9)) = .ok (.slice (some ⟨g, 0, none⟩) (a.length + 1) c) y ∧
      Two W Z T (cs.setIfInBounds j (.slice (some ⟨g, 0, none⟩) (a.length + 1) c)) (.slice (some ⟨g, 0, none⟩) (a.length + 1) c) v2 (a ++ [t]) b (y.setCell ⟨Z, j, none⟩ (.slice (some ⟨g, 0, none⟩) (a.length + 1) c)) ∧ y.cell? ⟨Z, j, none⟩ = some v1 ∧ y.frozen? ⟨Z, j, none⟩ = false ∧ Below W.heap.size W y := by
  obtain ⟨g, c, y, h1, h2, h3, h4, h5, -⟩ := h.app2 j t hj hl
  exact ⟨g, c, y, h1, h2, h3, h4, h5⟩
/-- What is shown. -/
structure Shw where
  k : ByteArray
  at_ : Int
  ns : List ByteArray
  cs : List ByteArray
  ix : Int
  s : ByteArray
  v : ByteArray
def shwZ : Shw := ⟨ByteArray.empty, 0, [], [], 0, ByteArray.empty, ByteArray.empty⟩
/-- Its two rows are the call's own, and apart. -/
def ShwO (base : Nat) (o : Shw) (v1 v2 : Value) (w : World) : Prop := w.ownsRow base 9 1 v1 o.ns.length (strRow o.ns) ∧ w.ownsRow base 9 1 v2 o.cs.length (strRow o.cs) ∧ ∀ g, v1.ownBlock = some g → v2.ownBlock ≠ some g
theorem ShwO.nil (base : Nat) (w : World) : ShwO base shwZ (.slice none 0 0) (.slice none 0 0) w := ⟨World.ownsRow_nil _ _ _ _, World.ownsRow_nil _ _ _ _, fun g hg => by cases hg⟩
def set8 (w : World) (g : Nat) (x0 x1 x2 x3 x4 x5 x6 x7 : Value) : World := (((((((w.setCell ⟨g, 0, none⟩ x0).setCell ⟨g, 1, none⟩ x1).setCell ⟨g, 2, none⟩ x2).setCell ⟨g, 3, none⟩ x3).setCell ⟨g, 4, none⟩ x4).setCell ⟨g, 5, none⟩ x5).setCell ⟨g, 6, none⟩ x6).setCell ⟨g, 7, none⟩ x7
theorem below_set8 {B : Nat} {a w : World} (h : Below B a w) {g : Nat} (hg : B ≤ g) (x0 x1 x2 x3 x4 x5 x6 x7 : Value) : Below B a (set8 w g x0 x1 x2 x3 x4 x5 x6 x7) := (((((((h.setCell hg _).setCell hg _).setCell hg _).setCell hg _).setCell hg _).setCell hg _).setCell hg _).setCell hg _
theorem own_set8 {w : World} {base g : Nat} {e : TypeId} {s : Nat} {v : Value} {n : Nat} {xs : List Value} (h : w.ownsRow base e s v n xs) (hg : g < base) (x0 x1 x2 x3 x4 x5 x6 x7 : Value) : (set8 w g x0 x1 x2 x3 x4 x5 x6 x7).ownsRow base e s v n xs :=
  ownsRow_setCell_below (ownsRow_setCell_below (ownsRow_setCell_below (ownsRow_setCell_below (ownsRow_setCell_below (ownsRow_setCell_below (ownsRow_setCell_below (ownsRow_setCell_below h hg _) hg _) hg _) hg _) hg _) hg _) hg _) hg _
theorem Bxs.eight {w : World} {g : Nat} {T : TypeId} {a b c d e f h i : Value} (k : Bxs w g T #[a, b, c, d, e, f, h, i]) : w.cell? ⟨g, 0, none⟩ = some a ∧ w.cell? ⟨g, 1, none⟩ = some b ∧ w.cell? ⟨g, 2, none⟩ = some c ∧ w.cell? ⟨g, 3, none⟩ = some d ∧ w.cell? ⟨g, 4, none⟩ = some e ∧ w.cell? ⟨g, 5, none⟩ = some f ∧ w.cell? ⟨g, 6, none⟩ = some h ∧ w.cell? ⟨g, 7, none⟩ = some i := ⟨k.cell 0, k.cell 1, k.cell 2, k.cell 3, k.cell 4, k.cell 5, k.cell 6, k.cell 7⟩
theorem Bxs.free8 {w : World} {g : Nat} {T : TypeId} {cs : Array Value} (k : Bxs w g T cs) : w.frozen? ⟨g, 0, none⟩ = false ∧ w.frozen? ⟨g, 1, none⟩ = false ∧ w.frozen? ⟨g, 2, none⟩ = false ∧ w.frozen? ⟨g, 3, none⟩ = false ∧ w.frozen? ⟨g, 4, none⟩ = false ∧ w.frozen? ⟨g, 5, none⟩ = false ∧ w.frozen? ⟨g, 6, none⟩ = false ∧ w.frozen? ⟨g, 7, none⟩ = false := ⟨k.fr 0, k.fr 1, k.fr 2, k.fr 3, k.fr 4, k.fr 5, k.fr 6, k.fr 7⟩
theorem TxtAt.some_of7 {w : World} {p : Option Addr} {ss : List ByteArray} (h : TxtAt w p ss) (h0 : 0 < ss.length) : ∃ b off, p = some ⟨b, off, none⟩ ∧ b < w.heap.size := by
  obtain ⟨b, off, rfl, hb, -⟩ := h 0 h0
  exact ⟨b, off, rfl, hb⟩
end Go.Proofs.YteiffjpmccbcoaaGreatDoor
