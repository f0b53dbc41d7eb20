/-
  Parts of one proof, laid as one text: LgAtK, LgAns, LgRt, ShwK, OneK, FldG, FldBlk, RwBlk, RowOps, LgO; what each says stands at its head.
-/
import Derived.Test.YtnknnfgimiljjaaGreatDoorRows
import Derived.Test.YtnknnfgimiljjaaGreatDoorBytesDigMath
import Derived.Test.YtnknnfgimiljjaaGreatDoorTreeMathSlABxKSlBOwnSJoinedOwnB
import Derived.Test.YtnknnfgimiljjaaGreatDoorTimeBPutMathPutNumPutTextFldMathFldRiseScanMath
import Derived.Test.YtnknnfgimiljjaaGreatDoorGetValGetTxtNumMathFldRdNumFromTmbMathLgMath
import Derived.Handy
import Derived.OwnWalk
import Derived.Deep.AppendLies
import Derived.ArgAppend
import Derived.Laws.CopyRow
import Derived.Lib.AppendZerosOnto
import Derived.Lib.Overlaps
/-
  What holds of a log that lies in memory: its rows and leaves as cells, within the reach.
-/
namespace Go.Proofs.YtnknnfgimiljjaaGreatDoor
open Go.RowKit Go.Lib
set_option linter.unusedVariables false

/-- What holds of a log that lies in memory. -/
structure LgAt (p : Option Addr) (lv : List ByteArray) (cp : Nat) (q : Option Addr) (rs : List Rw) (cq : Nat) (w : World) : Prop where
  tx : TxtAt w p lv
  lc : lv.length ≤ cp
  ln : lv.length ≤ 1048576
  lz : TxtsLe lv
  rw : RwAt w q rs
  rc : rs.length ≤ cq
  rn : rs.length ≤ 1048576
  rz : RwsLe rs
theorem LgAt.below {p : Option Addr} {lv : List ByteArray} {cp : Nat} {q : Option Addr} {rs : List Rw} {cq : Nat} {w x : World} (h : LgAt p lv cp q rs cq w) (hb : Below w.heap.size w x) : LgAt p lv cp q rs cq x :=
  ⟨h.tx.below hb, h.lc, h.ln, h.lz, h.rw.below hb, h.rc, h.rn, h.rz⟩
end Go.Proofs.YtnknnfgimiljjaaGreatDoor
/-
  What is told of a log, in plain mathematics: the place of a row's leaf, the code and the status of a field.
-/
namespace Go.Proofs.YtnknnfgimiljjaaGreatDoor
open Go.RowKit Go.Lib
set_option linter.unusedVariables false

def plFrom (row : Int) : Nat → Nat → List ByteArray → Int
  | _, _, [] => -1
  | n, i, t :: ts => if isRl t = true then (if (n : Int) = row then (i : Int) else plFrom row (n + 1) (i + 1) ts) else plFrom row n (i + 1) ts
def plB (lv : List ByteArray) (row : Int) : Int := plFrom row 0 0 lv
def plO (rs : List Rw) (lv : List ByteArray) (now r : Int) : Int := if lgB rs lv now = true then plB lv r else -1
def tbO (rs : List Rw) (lv : List ByteArray) (now r f : Int) : Int := if lgB rs lv now = true then tbAt lv r f else -1
/-- The code of a field: it is there, it is gone, there is none. -/
def fcO (rs : List Rw) (r f : Int) : Int := if 0 ≤ r ∧ r ≤ (rs.length : Int) - 1 then (if 0 ≤ f ∧ f ≤ ((rs.getD r.toNat rwZ).fs.length : Int) - 1 then (if (fldOf rs r f).g = true then 7 else 0) else 6) else 6
def gcO (rs : List Rw) (lv : List ByteArray) (now r f : Int) : Int := if lgB rs lv now = true then fcO rs r f else 1
def stC (c : Int) : Int := if c = 0 then 1 else if c = 7 then 2 else 0
def stO (rs : List Rw) (lv : List ByteArray) (now r f : Int) : Int := if lgB rs lv now = true then stC (fcO rs r f) else 0
theorem stO_gc (rs : List Rw) (lv : List ByteArray) (now r f : Int) : stO rs lv now r f = stC (gcO rs lv now r f) := by
  unfold stO gcO
  split
  · rfl
  · rfl
theorem fcO_cases (rs : List Rw) (r f : Int) : fcO rs r f = 0 ∨ fcO rs r f = 7 ∨ fcO rs r f = 6 := by
  unfold fcO
  split
  · split
    · split
      · exact .inr (.inl rfl)
      · exact .inl rfl
    · exact .inr (.inr rfl)
  · exact .inr (.inr rfl)
theorem lg_right {rs : List Rw} {lv : List ByteArray} {now : Int} (h : lgB rs lv now = true) : rs.length ≤ 6 ∧ lv.length ≤ 64 ∧ (∀ r ∈ rs, rB r = true) := by
  unfold lgB at h
  simp only [Bool.and_eq_true, decide_eq_true_iff] at h
  refine ⟨h.1, h.2.1, fun r hr => ?_⟩
  have h2 := h.2.2.2.1
  unfold rsB at h2
  rw [List.all_eq_true] at h2
  exact (Bool.and_eq_true_iff.1 (h2 r hr)).1
end Go.Proofs.YtnknnfgimiljjaaGreatDoor
/-
  The root of a log's first leaves and its head, in plain mathematics; the leaves of a right log are small.
-/
namespace Go.Proofs.YtnknnfgimiljjaaGreatDoor
open Go.RowKit Go.Lib
set_option linter.unusedVariables false

def roO (rs : List Rw) (lv : List ByteArray) (now n : Int) : ByteArray := if lgB rs lv now = true then (if 0 ≤ n ∧ n ≤ (lv.length : Int) then treeB (lv.take n.toNat) else ByteArray.empty) else ByteArray.empty
def hdB (lv : List ByteArray) : ByteArray := putB (lv.length : Int) ++ putTextB (treeB lv)
def hdO (rs : List Rw) (lv : List ByteArray) (now : Int) : ByteArray := if lgB rs lv now = true then hdB lv else ByteArray.empty
theorem go_small (rs : List Rw) (now : Int) : ∀ (suf pre : List ByteArray) (n n' : Nat), cGo rs now pre n suf = some n' → ∀ t ∈ suf, t.size ≤ 100
  | [], _, _, _, _ => fun t h => by cases h
  | t :: ts, pre, n, n', h => by
    rw [cGo] at h
    have each : ∀ {m : Nat} {q : List ByteArray}, t.size ≤ 100 → cGo rs now q m ts = some n' → ∀ x ∈ t :: ts, x.size ≤ 100 := fun ht hc x hx => by
      rcases List.mem_cons.1 hx with rfl | hx
      · exact ht
      · exact go_small rs now ts _ _ _ hc x hx
    split at h
    · rename_i hn
      refine each ?_ h
      rw [((nx_iff _ _ _).1 hn).2]
      unfold rlB
      rw [ByteArray.size_append, digB_size]
      show 1 + 32 ≤ 100
      omega
    · split at h
      · rename_i hn ho
        refine each ?_ h
        unfold okT at ho
        simp only [Bool.and_eq_true, decide_eq_true_iff] at ho
        obtain ⟨-, -, hR, -⟩ := tr_sound ho.1
        have := (tmRaw_size (trT t)).2
        rw [hR] at this
        omega
      · cases h
theorem lg_small {rs : List Rw} {lv : List ByteArray} {now : Int} (h : lgB rs lv now = true) : ∀ t ∈ lv, t.size ≤ 100 := by
  rw [lg_eq] at h
  unfold imB at h
  simp only [Bool.and_eq_true] at h
  cases hc : cGo rs now [] 0 lv with
  | none => rw [hc] at h; exact absurd h.2.2 (by simp)
  | some n => exact go_small rs now lv [] 0 n hc
theorem ent_take {lv : List ByteArray} (h1 : lv.length ≤ 64) (h2 : ∀ t ∈ lv, t.size ≤ 100) (k : Nat) : entB (lv.take k) = true :=
  entB_true (by simp; omega) (fun j hj => h2 _ (List.mem_of_mem_take (List.getElem_mem hj)))
theorem rtSize (wx : World) : (sizeOf (Tryz.prog.elem 24)).run Tryz.prog wx = .ok 1 wx := by kernel_rfl
theorem rtElem : Tryz.prog.underlying 24 = some (.slice (Tryz.prog.elem 24)) := by kernel_rfl
theorem sl_to (q : Option Addr) (n c k : Nat) (hk : k ≤ c) (wx : World) : (Instr.slice 24 (.slice q n c) none (some (.int .i64 (k : Int))) none).run Tryz.prog wx = .ok (.slice q k c) wx := by
  rw [run_slice_h (P := Tryz.prog) wx 24 q n c rtElem .i64 (k : Int) (by omega) (by omega), rtSize]
  cases q <;> simp [sliced, Result.andThen, Addr.add]
theorem rtSizeL (wx : World) : (sizeOf (Tryz.prog.elem 54)).run Tryz.prog wx = .ok 1 wx := by kernel_rfl
theorem rtElemL : Tryz.prog.underlying 54 = some (.slice (Tryz.prog.elem 54)) := by kernel_rfl
theorem sl_lv (q : Option Addr) (n c k : Nat) (hk : k ≤ c) (wx : World) : (Instr.slice 54 (.slice q n c) none (some (.int .i64 (k : Int))) none).run Tryz.prog wx = .ok (.slice q k c) wx := by
  rw [run_slice_h (P := Tryz.prog) wx 54 q n c rtElemL .i64 (k : Int) (by omega) (by omega), rtSizeL]
  cases q <;> simp [sliced, Result.andThen, Addr.add]
theorem putTextB_32 {t : ByteArray} (h : t.size = 32) : (putTextB t).size ≤ 42 := by
  have := putTextB_le t (by omega)
  omega
end Go.Proofs.YtnknnfgimiljjaaGreatDoor
/-
  What is shown of a row: two rows of texts of its own in a box, apart; append of one text.
-/
namespace Go.Proofs.YtnknnfgimiljjaaGreatDoor
open Go.RowKit Go.Lib
set_option linter.unusedVariables false
set_option maxRecDepth 20000

theorem infoStr7 : (Tryz.prog.info? 9).map (fun i => (i.zero, i.size, i.bytes)) = some (some (.string ByteArray.empty), 1, 16) := by kernel_rfl
theorem app_str (w : World) (base : Nat) (v : Value) (l : List ByteArray) (own : w.ownsRow base 9 1 v l.length (strRow l)) (t : ByteArray) (hl : l.length + 1 ≤ 1048576) (hbase : base ≤ w.heap.size) :
    ∃ g c w', (Builtin.append_ #[24, 24] 24 #[v, .slice (some ⟨w.heap.size, 0, none⟩) 1 1]).run Tryz.prog (w.alloc (.cells #[.string t] 9)) = .ok (.slice (some ⟨g, 0, none⟩) (l.length + 1) c) w' ∧
      w'.ownsRow base 9 1 (.slice (some ⟨g, 0, none⟩) (l.length + 1) c) (l ++ [t]).length (strRow (l ++ [t])) ∧ (w.alloc (.cells #[.string t] 9)).grownBy w' v.ownBlock ∧ (v.ownBlock = some g ∨ g = w.heap.size + 1) := by
  obtain ⟨i0, hi, hz0, hz1, hz2⟩ := info_parts infoStr7
  obtain ⟨g, c, w', h1, h2, h3, h4, _⟩ := run_append_lies (P := Tryz.prog) (w.alloc (.cells #[.string t] 9)) 24 24 base 9 i0 _ 1 16 Tryz.underlying24 hi hz0 hz1 hz2 rfl (by omega) v l.length (strRow l) (own.alloc _) ⟨w.heap.size, 0, none⟩ 1 1 [.string t] rfl (fun j u hu => by
      have hj : j < 1 := by
        rcases Nat.lt_or_ge j 1 with q | q
        · exact q
        · rw [List.getElem?_eq_none (by exact q)] at hu; cases hu
      have hadd : (⟨w.heap.size, 0, none⟩ : Addr).add j = ⟨w.heap.size, 0 + j, none⟩ := by unfold Addr.add; split <;> simp_all
      rw [hadd, Nat.zero_add, World.cell?_alloc_mark]
      match j, hj with
      | 0, _ => exact hu) (fun u hu => by
      simp at hu
      subst hu; rfl) (by omega) (by unfold maxLen; omega) (by omega) (by simp; omega) (w.heap.size + 1) (by simp)
  refine ⟨g, c, w', h1, ?_, h3, h4⟩
  have e1 : (l ++ [t]).length = l.length + 1 := by simp
  have e2 : strRow (l ++ [t]) = strRow l ++ [.string t] := by simp [strRow]
  rw [e1, e2]; exact h2
theorem ownR_ne {w : World} {base g : Nat} {e T : TypeId} {s : Nat} {v : Value} {n : Nat} {xs : List Value} {cs : Array Value} (h : w.ownsRow base e s v n xs) (hb : Bxs w g T cs) (hne : T ≠ e) : v.ownBlock ≠ some g := by
  intro he
  rcases h.2 with ⟨rfl, _⟩ | ⟨g', cap, cur, rfl, _, hg', _⟩
  · cases he
  · have : g' = g := by simpa [Value.ownBlock] using he
    subst this
    unfold Bxs at hb
    rw [hb] at hg'
    injection hg' with h1
    injection h1 with h2 h3
    exact hne h3
theorem ownR_grown {w w' : World} {base : Nat} {e : TypeId} {s : Nat} {v : Value} {n : Nat} {xs : List Value} (h : w.ownsRow base e s v n xs) {row : Option Nat} (hg : w.grownBy w' row) (hne : ∀ g, v.ownBlock = some g → row ≠ some g) : w'.ownsRow base e s v n xs := by
  refine ⟨h.1, ?_⟩
  rcases h.2 with h0 | ⟨g, cap, cur, rfl, h2, h3, h4⟩
  · exact .inl h0
  · exact .inr ⟨g, cap, cur, rfl, h2, (hg.block g (lt_of_block h3) (Ne.symm (hne g rfl))).trans h3, h4⟩
/-- A box with two rows of texts of its own, apart. -/
structure Two (W : World) (Z : Nat) (T : TypeId) (cs : Array Value) (v1 v2 : Value) (a b : List ByteArray) (x : World) : Prop where
  bel : Below W.heap.size W x
  hZ : W.heap.size ≤ Z
  hT : T ≠ 9
  box : Bxs x Z T cs
  own1 : x.ownsRow W.heap.size 9 1 v1 a.length (strRow a)
  own2 : x.ownsRow W.heap.size 9 1 v2 b.length (strRow b)
  ap : ∀ g, v1.ownBlock = some g → v2.ownBlock ≠ some g
theorem Two.below {W : World} {Z : Nat} {T : TypeId} {cs : Array Value} {v1 v2 : Value} {a b : List ByteArray} {x y : World} (h : Two W Z T cs v1 v2 a b x) (hb : Below x.heap.size x y) : Two W Z T cs v1 v2 a b y :=
  ⟨chainB h.bel hb, h.hZ, h.hT, h.box.below hb, ownS_below h.own1 hb, ownS_below h.own2 hb, h.ap⟩
theorem Two.swap {W : World} {Z : Nat} {T : TypeId} {cs : Array Value} {v1 v2 : Value} {a b : List ByteArray} {x : World} (h : Two W Z T cs v1 v2 a b x) : Two W Z T cs v2 v1 b a x :=
  ⟨h.bel, h.hZ, h.hT, h.box, h.own2, h.own1, fun g hg he => h.ap g he hg⟩
theorem Two.put {W : World} {Z : Nat} {T : TypeId} {cs : Array Value} {v1 v2 : Value} {a b : List ByteArray} {x : World} (h : Two W Z T cs v1 v2 a b x) (j : Nat) (u : Value) : Two W Z T (cs.setIfInBounds j u) v1 v2 a b (x.setCell ⟨Z, j, none⟩ u) :=
  ⟨h.bel.setCell h.hZ _, h.hZ, h.hT, h.box.set j u, ownsRow_setCell_other h.own1 (ownR_ne h.own1 h.box h.hT) _, ownsRow_setCell_other h.own2 (ownR_ne h.own2 h.box h.hT) _, h.ap⟩
/-- One text is put behind the first row, and the row into the box. -/
theorem Two.app2 {W : World} {Z : Nat} {T : TypeId} {cs : Array Value} {v1 v2 : Value} {a b : List ByteArray} {x : World} (h : Two W Z T cs v1 v2 a b x) (j : Nat) (t : ByteArray) (hj : cs[j]? = some v1) (hl : a.length + 1 ≤ 1048576) :
    ∃ g c y, (Builtin.append_ #[24, 24] 24 #[v1, .slice (some ⟨x.heap.size, 0, none⟩) 1 1]).run Tryz.prog (x.alloc (.cells #[.string t] 9)) = .ok (.slice (some ⟨g, 0, none⟩) (a.length + 1) c) y ∧
      Two W Z T (cs.setIfInBounds j (.slice (some ⟨g, 0, none⟩) (a.length + 1) c)) (.slice (some ⟨g, 0, none⟩) (a.length + 1) c) v2 (a ++ [t]) b (y.setCell ⟨Z, j, none⟩ (.slice (some ⟨g, 0, none⟩) (a.length + 1) c)) ∧ y.cell? ⟨Z, j, none⟩ = some v1 ∧ y.frozen? ⟨Z, j, none⟩ = false ∧ Below W.heap.size W y ∧ ∀ g' T' cs', T' ≠ 9 → g' ≠ Z → Bxs x g' T' cs' → Bxs y g' T' cs' ∧ Bxs (y.setCell ⟨Z, j, none⟩ (.slice (some ⟨g, 0, none⟩) (a.length + 1) c)) g' T' cs' := by
  obtain ⟨g, c, y, h1, h2, h3, h4⟩ := app_str x W.heap.size v1 a h.own1 t hl h.bel.size
  have hb : Bxs y Z T cs := (h.box.alloc _).grown h3 (Ne.symm (ownR_ne h.own1 h.box h.hT))
  have hB : Below W.heap.size W y := (h.bel.alloc h.bel.size _).grown h3 (by have := h.bel.size; rw [szA]; omega) (fun j hj => (h.own1.lt j hj).1)
  have o2 : y.ownsRow W.heap.size 9 1 v2 b.length (strRow b) := ownR_grown (h.own2.alloc _) h3 (fun g' hg' he => h.ap g' he hg')
  have hap : ∀ g', (Value.slice (some ⟨g, 0, none⟩) (a.length + 1) c).ownBlock = some g' → v2.ownBlock ≠ some g' := by
    intro g' hg' he
    have : g = g' := by simpa [Value.ownBlock] using hg'
    subst this
    rcases h4 with h4 | h4
    · exact h.ap g h4 he
    · have := (h.own2.lt g he).2; omega
  refine ⟨g, c, y, h1, ⟨hB.setCell h.hZ _, h.hZ, h.hT, hb.set j _, ownsRow_setCell_other h2 (ownR_ne h2 hb h.hT) _, ownsRow_setCell_other o2 (ownR_ne o2 hb h.hT) _, hap⟩, ?_, hb.fr j, hB, ?_⟩
  · rw [hb.cell j]; exact hj
  · intro g' T' cs' hT' hne hK
    have hk := (hK.alloc (.cells #[.string t] 9)).grown h3 (Ne.symm (ownR_ne h.own1 hK hT'))
    exact ⟨hk, hk.other _ _ (Ne.symm hne) _⟩
theorem Two.app {W : World} {Z : Nat} {T : TypeId} {cs : Array Value} {v1 v2 : Value} {a b : List ByteArray} {x : World} (h : Two W Z T cs v1 v2 a b x) (j : Nat) (t : ByteArray) (hj : cs[j]? = some v1) (hl : a.length + 1 ≤ 1048576) :
    ∃ g c y, (Builtin.append_ #[24, 24] 24 #[v1, .slice (some ⟨x.heap.size, 0, none⟩) 1 1]).run Tryz.prog (x.alloc (.cells #[.string t] 9)) = .ok (.slice (some ⟨g, 0, none⟩) (a.length + 1) c) y ∧
      Two W Z T (cs.setIfInBounds j (.slice (some ⟨g, 0, none⟩) (a.length + 1) c)) (.slice (some ⟨g, 0, none⟩) (a.length + 1) c) v2 (a ++ [t]) b (y.setCell ⟨Z, j, none⟩ (.slice (some ⟨g, 0, none⟩) (a.length + 1) c)) ∧ y.cell? ⟨Z, j, none⟩ = some v1 ∧ y.frozen? ⟨Z, j, none⟩ = false ∧ Below W.heap.size W y := by
  obtain ⟨g, c, y, h1, h2, h3, h4, h5, -⟩ := h.app2 j t hj hl
  exact ⟨g, c, y, h1, h2, h3, h4, h5⟩
/-- What is shown. -/
structure Shw where
  k : ByteArray
  at_ : Int
  ns : List ByteArray
  cs : List ByteArray
  ix : Int
  s : ByteArray
  v : ByteArray
def shwZ : Shw := ⟨ByteArray.empty, 0, [], [], 0, ByteArray.empty, ByteArray.empty⟩
/-- Its two rows are the call's own, and apart. -/
def ShwO (base : Nat) (o : Shw) (v1 v2 : Value) (w : World) : Prop := w.ownsRow base 9 1 v1 o.ns.length (strRow o.ns) ∧ w.ownsRow base 9 1 v2 o.cs.length (strRow o.cs) ∧ ∀ g, v1.ownBlock = some g → v2.ownBlock ≠ some g
theorem ShwO.nil (base : Nat) (w : World) : ShwO base shwZ (.slice none 0 0) (.slice none 0 0) w := ⟨World.ownsRow_nil _ _ _ _, World.ownsRow_nil _ _ _ _, fun g hg => by cases hg⟩
def set8 (w : World) (g : Nat) (x0 x1 x2 x3 x4 x5 x6 x7 : Value) : World := (((((((w.setCell ⟨g, 0, none⟩ x0).setCell ⟨g, 1, none⟩ x1).setCell ⟨g, 2, none⟩ x2).setCell ⟨g, 3, none⟩ x3).setCell ⟨g, 4, none⟩ x4).setCell ⟨g, 5, none⟩ x5).setCell ⟨g, 6, none⟩ x6).setCell ⟨g, 7, none⟩ x7
theorem below_set8 {B : Nat} {a w : World} (h : Below B a w) {g : Nat} (hg : B ≤ g) (x0 x1 x2 x3 x4 x5 x6 x7 : Value) : Below B a (set8 w g x0 x1 x2 x3 x4 x5 x6 x7) := (((((((h.setCell hg _).setCell hg _).setCell hg _).setCell hg _).setCell hg _).setCell hg _).setCell hg _).setCell hg _
theorem own_set8 {w : World} {base g : Nat} {e : TypeId} {s : Nat} {v : Value} {n : Nat} {xs : List Value} (h : w.ownsRow base e s v n xs) (hg : g < base) (x0 x1 x2 x3 x4 x5 x6 x7 : Value) : (set8 w g x0 x1 x2 x3 x4 x5 x6 x7).ownsRow base e s v n xs :=
  ownsRow_setCell_below (ownsRow_setCell_below (ownsRow_setCell_below (ownsRow_setCell_below (ownsRow_setCell_below (ownsRow_setCell_below (ownsRow_setCell_below (ownsRow_setCell_below h hg _) hg _) hg _) hg _) hg _) hg _) hg _) hg _
theorem Bxs.eight {w : World} {g : Nat} {T : TypeId} {a b c d e f h i : Value} (k : Bxs w g T #[a, b, c, d, e, f, h, i]) : w.cell? ⟨g, 0, none⟩ = some a ∧ w.cell? ⟨g, 1, none⟩ = some b ∧ w.cell? ⟨g, 2, none⟩ = some c ∧ w.cell? ⟨g, 3, none⟩ = some d ∧ w.cell? ⟨g, 4, none⟩ = some e ∧ w.cell? ⟨g, 5, none⟩ = some f ∧ w.cell? ⟨g, 6, none⟩ = some h ∧ w.cell? ⟨g, 7, none⟩ = some i := ⟨k.cell 0, k.cell 1, k.cell 2, k.cell 3, k.cell 4, k.cell 5, k.cell 6, k.cell 7⟩
theorem Bxs.free8 {w : World} {g : Nat} {T : TypeId} {cs : Array Value} (k : Bxs w g T cs) : w.frozen? ⟨g, 0, none⟩ = false ∧ w.frozen? ⟨g, 1, none⟩ = false ∧ w.frozen? ⟨g, 2, none⟩ = false ∧ w.frozen? ⟨g, 3, none⟩ = false ∧ w.frozen? ⟨g, 4, none⟩ = false ∧ w.frozen? ⟨g, 5, none⟩ = false ∧ w.frozen? ⟨g, 6, none⟩ = false ∧ w.frozen? ⟨g, 7, none⟩ = false := ⟨k.fr 0, k.fr 1, k.fr 2, k.fr 3, k.fr 4, k.fr 5, k.fr 6, k.fr 7⟩
theorem TxtAt.some_of7 {w : World} {p : Option Addr} {ss : List ByteArray} (h : TxtAt w p ss) (h0 : 0 < ss.length) : ∃ b off, p = some ⟨b, off, none⟩ ∧ b < w.heap.size := by
  obtain ⟨b, off, rfl, hb, -⟩ := h 0 h0
  exact ⟨b, off, rfl, hb⟩
end Go.Proofs.YtnknnfgimiljjaaGreatDoor
/-
  A field put behind a row of fields of one's own; a box with such a row.
-/
namespace Go.Proofs.YtnknnfgimiljjaaGreatDoor
open Go.RowKit Go.Lib
set_option linter.unusedVariables false

theorem infoFld : (Tryz.prog.info? 72).map (fun i => (i.zero, i.size, i.bytes)) = some (some (.agg #[.string ByteArray.empty, .string ByteArray.empty, .string ByteArray.empty, .string ByteArray.empty, .bool false]), 5, 72) := by kernel_rfl
theorem app_fld (w : World) (base : Nat) (v : Value) (l : List Fld) (own : w.ownsRow base 72 5 v l.length (fldRow l)) (fn fc fs fv : ByteArray) (fg : Bool) (hl : l.length + 1 ≤ 1048576) (hbase : base ≤ w.heap.size) :
    ∃ g c w', (Builtin.append_ #[68, 68] 68 #[v, .slice (some ⟨w.heap.size, 0, none⟩) 1 1]).run Tryz.prog (w.alloc (.cells #[.string fn, .string fc, .string fs, .string fv, .bool fg] 72)) = .ok (.slice (some ⟨g, 0, none⟩) (l.length + 1) c) w' ∧
      w'.ownsRow base 72 5 (.slice (some ⟨g, 0, none⟩) (l.length + 1) c) (l ++ [(⟨fn, fc, fs, fv, fg⟩ : Fld)]).length (fldRow (l ++ [(⟨fn, fc, fs, fv, fg⟩ : Fld)])) ∧ (w.alloc (.cells #[.string fn, .string fc, .string fs, .string fv, .bool fg] 72)).grownBy w' v.ownBlock ∧ (v.ownBlock = some g ∨ g = w.heap.size + 1) := by
  obtain ⟨i0, hi, hz0, hz1, hz2⟩ := info_parts infoFld
  obtain ⟨g, c, w', h1, h2, h3, h4, _⟩ := run_append_lies (P := Tryz.prog) (w.alloc (.cells #[.string fn, .string fc, .string fs, .string fv, .bool fg] 72)) 68 68 base 72 i0 _ 5 72 Tryz.underlying68 hi hz0 hz1 hz2 rfl (by omega) v l.length (fldRow l) (own.alloc _) ⟨w.heap.size, 0, none⟩ 1 1 (fldRow [(⟨fn, fc, fs, fv, fg⟩ : Fld)]) rfl (fun j u hu => by
      have hj : j < 5 := by
        rcases Nat.lt_or_ge j 5 with q | q
        · exact q
        · rw [List.getElem?_eq_none (by rw [fldRow_len]; exact q)] at hu; cases hu
      have hadd : (⟨w.heap.size, 0, none⟩ : Addr).add j = ⟨w.heap.size, 0 + j, none⟩ := by unfold Addr.add; split <;> simp_all
      rw [hadd, Nat.zero_add, World.cell?_alloc_mark]
      match j, hj with
      | 0, _ => exact hu
      | 1, _ => exact hu
      | 2, _ => exact hu
      | 3, _ => exact hu
      | 4, _ => exact hu) (fun u hu => by
      simp [fldRow, fldCells] at hu
      rcases hu with rfl | rfl | rfl | rfl | rfl <;> rfl) (by omega) (by unfold maxLen; omega) (by omega) (by simp; omega) (w.heap.size + 1) (by simp)
  refine ⟨g, c, w', h1, ?_, h3, h4⟩
  have e1 : (l ++ [(⟨fn, fc, fs, fv, fg⟩ : Fld)]).length = l.length + 1 := by simp
  rw [e1, fldRow_append]; exact h2
/-- A box with one row of fields of its own. -/
structure One7 (W : World) (Z : Nat) (T : TypeId) (cs : Array Value) (v : Value) (l : List Fld) (x : World) : Prop where
  bel : Below W.heap.size W x
  hZ : W.heap.size ≤ Z
  hT : T ≠ 72
  box : Bxs x Z T cs
  own : x.ownsRow W.heap.size 72 5 v l.length (fldRow l)
theorem One7.below {W : World} {Z : Nat} {T : TypeId} {cs : Array Value} {v : Value} {l : List Fld} {x y : World} (h : One7 W Z T cs v l x) (hb : Below x.heap.size x y) : One7 W Z T cs v l y := ⟨chainB h.bel hb, h.hZ, h.hT, h.box.below hb, ownS_below h.own hb⟩
theorem One7.app2 {W : World} {Z : Nat} {T : TypeId} {cs : Array Value} {v : Value} {l : List Fld} {x : World} (h : One7 W Z T cs v l x) (j : Nat) (fn fc fs fv : ByteArray) (fg : Bool) (hj : cs[j]? = some v) (hl : l.length + 1 ≤ 1048576) :
    ∃ g c y, (Builtin.append_ #[68, 68] 68 #[v, .slice (some ⟨x.heap.size, 0, none⟩) 1 1]).run Tryz.prog (x.alloc (.cells #[.string fn, .string fc, .string fs, .string fv, .bool fg] 72)) = .ok (.slice (some ⟨g, 0, none⟩) (l.length + 1) c) y ∧
      One7 W Z T (cs.setIfInBounds j (.slice (some ⟨g, 0, none⟩) (l.length + 1) c)) (.slice (some ⟨g, 0, none⟩) (l.length + 1) c) (l ++ [⟨fn, fc, fs, fv, fg⟩]) (y.setCell ⟨Z, j, none⟩ (.slice (some ⟨g, 0, none⟩) (l.length + 1) c)) ∧ y.cell? ⟨Z, j, none⟩ = some v ∧ y.frozen? ⟨Z, j, none⟩ = false ∧ Below W.heap.size W y ∧ (x.alloc (.cells #[.string fn, .string fc, .string fs, .string fv, .bool fg] 72)).grownBy y v.ownBlock := by
  obtain ⟨g, c, y, h1, h2, h3, h4⟩ := app_fld x W.heap.size v l h.own fn fc fs fv fg hl h.bel.size
  have hb : Bxs y Z T cs := (h.box.alloc _).grown h3 (Ne.symm (ownR_ne h.own h.box h.hT))
  have hB : Below W.heap.size W y := (h.bel.alloc h.bel.size _).grown h3 (by have := h.bel.size; rw [szA]; omega) (fun j hj => (h.own.lt j hj).1)
  refine ⟨g, c, y, h1, ⟨hB.setCell h.hZ _, h.hZ, h.hT, hb.set j _, ownsRow_setCell_other h2 (ownR_ne h2 hb h.hT) _⟩, ?_, hb.fr j, hB, h3⟩
  rw [hb.cell j]; exact hj
theorem One7.app {W : World} {Z : Nat} {T : TypeId} {cs : Array Value} {v : Value} {l : List Fld} {x : World} (h : One7 W Z T cs v l x) (j : Nat) (fn fc fs fv : ByteArray) (fg : Bool) (hj : cs[j]? = some v) (hl : l.length + 1 ≤ 1048576) :
    ∃ g c y, (Builtin.append_ #[68, 68] 68 #[v, .slice (some ⟨x.heap.size, 0, none⟩) 1 1]).run Tryz.prog (x.alloc (.cells #[.string fn, .string fc, .string fs, .string fv, .bool fg] 72)) = .ok (.slice (some ⟨g, 0, none⟩) (l.length + 1) c) y ∧
      One7 W Z T (cs.setIfInBounds j (.slice (some ⟨g, 0, none⟩) (l.length + 1) c)) (.slice (some ⟨g, 0, none⟩) (l.length + 1) c) (l ++ [⟨fn, fc, fs, fv, fg⟩]) (y.setCell ⟨Z, j, none⟩ (.slice (some ⟨g, 0, none⟩) (l.length + 1) c)) ∧ y.cell? ⟨Z, j, none⟩ = some v ∧ y.frozen? ⟨Z, j, none⟩ = false ∧ Below W.heap.size W y := by
  obtain ⟨g, c, y, h1, h2, h3, h4, h5, -⟩ := h.app2 j fn fc fs fv fg hj hl
  exact ⟨g, c, y, h1, h2, h3, h4, h5⟩
theorem getD_at {l : List ByteArray} {i : Nat} (h : i < l.length) : l.getD i ByteArray.empty = l[i] := by rw [List.getD_eq_getElem?_getD, List.getElem?_eq_getElem h]; rfl
end Go.Proofs.YtnknnfgimiljjaaGreatDoor
/-
  What forgetting leaves, as plain functions; a field put into a row of fields of one's own.
-/
namespace Go.Proofs.YtnknnfgimiljjaaGreatDoor
open Go.RowKit Go.Lib
set_option linter.unusedVariables false

theorem fldRow_set : ∀ (fs : List Fld) (i : Nat) (f : Fld), (((((fldRow fs).set (i * 5) (.string f.n)).set (i * 5 + 1) (.string f.c)).set (i * 5 + 2) (.string f.s)).set (i * 5 + 3) (.string f.v)).set (i * 5 + 4) (.bool f.g) = fldRow (fs.set i f)
  | [], i, f => by simp [fldRow]
  | g :: fs, 0, f => rfl
  | g :: fs, i + 1, f => by
    have ih := fldRow_set fs i f
    rw [show (i + 1) * 5 = i * 5 + 5 by omega, show i * 5 + 5 + 1 = i * 5 + 1 + 5 by omega, show i * 5 + 5 + 2 = i * 5 + 2 + 5 by omega, show i * 5 + 5 + 3 = i * 5 + 3 + 5 by omega, show i * 5 + 5 + 4 = i * 5 + 4 + 5 by omega]
    show .string g.n :: .string g.c :: .string g.s :: .string g.v :: .bool g.g :: _ = .string g.n :: .string g.c :: .string g.s :: .string g.v :: .bool g.g :: fldRow (fs.set i f)
    rw [← ih]; rfl
def set5 (w : World) (g o : Nat) (f : Fld) : World := ((((w.setCell ⟨g, o, none⟩ (.string f.n)).setCell ⟨g, o + 1, none⟩ (.string f.c)).setCell ⟨g, o + 2, none⟩ (.string f.s)).setCell ⟨g, o + 3, none⟩ (.string f.v)).setCell ⟨g, o + 4, none⟩ (.bool f.g)
theorem own_set5 {w : World} {base b n cc : Nat} {fs : List Fld} (h : w.ownsRow base 72 5 (.slice (some ⟨b, 0, none⟩) n cc) n (fldRow fs)) (i : Nat) (f : Fld) : (set5 w b (i * 5) f).ownsRow base 72 5 (.slice (some ⟨b, 0, none⟩) n cc) n (fldRow (fs.set i f)) := by
  have h1 := (h.stored (i * 5) (.string f.n)).1
  have h2 := (h1.stored (i * 5 + 1) (.string f.c)).1
  have h3 := (h2.stored (i * 5 + 2) (.string f.s)).1
  have h4 := (h3.stored (i * 5 + 3) (.string f.v)).1
  have h5 := (h4.stored (i * 5 + 4) (.bool f.g)).1
  rw [fldRow_set] at h5
  exact h5
theorem set5_other {w : World} {g b o : Nat} {T : TypeId} {cs : Array Value} (h : Bxs w g T cs) (hne : b ≠ g) (f : Fld) : Bxs (set5 w b o f) g T cs := ((((h.other b _ hne _).other b _ hne _).other b _ hne _).other b _ hne _).other b _ hne _
theorem set5_below {B : Nat} {a w : World} (h : Below B a w) {g : Nat} (hg : B ≤ g) (o : Nat) (f : Fld) : Below B a (set5 w g o f) := ((((h.setCell hg _).setCell hg _).setCell hg _).setCell hg _).setCell hg _
/-! ### What Forget answers -/
def fldD : Fld := ⟨ByteArray.empty, ByteArray.empty, ByteArray.empty, ByteArray.empty, false⟩
def fgC (k : ByteArray) (at_ : Int) (fs : List Fld) (i : Int) : Int := if rwB k at_ fs = true then (if 0 ≤ i ∧ i ≤ (fs.length : Int) - 1 then (if (fs.getD i.toNat fldD).g = true then 7 else 0) else 6) else 1
def fgK (k : ByteArray) (at_ : Int) (fs : List Fld) (i : Int) : ByteArray := if fgC k at_ fs i = 0 then k else ByteArray.empty
def fgA (k : ByteArray) (at_ : Int) (fs : List Fld) (i : Int) : Int := if fgC k at_ fs i = 0 then at_ else 0
def fgF (k : ByteArray) (at_ : Int) (fs : List Fld) (i : Int) : List Fld := if fgC k at_ fs i = 0 then fs.set i.toNat (goneF (fs.getD i.toNat fldD)) else []
end Go.Proofs.YtnknnfgimiljjaaGreatDoor
/-
  A block of fields that was made, and is written field by field.
-/
namespace Go.Proofs.YtnknnfgimiljjaaGreatDoor
open Go.RowKit Go.Lib
set_option linter.unusedVariables false

def fldE5 : Fld := ⟨ByteArray.empty, ByteArray.empty, ByteArray.empty, ByteArray.empty, false⟩
/-- A block that holds these fields, and nothing else. -/
def BlkF (w : World) (g : Nat) (l : List Fld) : Prop := Bxs w g 72 (fldRow l).toArray
theorem BlkF.below {w w' : World} {g : Nat} {l : List Fld} (h : BlkF w g l) (hb : Below w.heap.size w w') : BlkF w' g l := Bxs.below h hb
theorem BlkF.cells {w : World} {g : Nat} {l : List Fld} (h : BlkF w g l) (i : Nat) (hi : i < l.length) : (w.cell? ⟨g, i * 5, none⟩ = some (.string l[i].n) ∧ w.cell? ⟨g, i * 5 + 1, none⟩ = some (.string l[i].c) ∧ w.cell? ⟨g, i * 5 + 2, none⟩ = some (.string l[i].s) ∧ w.cell? ⟨g, i * 5 + 3, none⟩ = some (.string l[i].v) ∧ w.cell? ⟨g, i * 5 + 4, none⟩ = some (.bool l[i].g)) ∧ w.frozen? ⟨g, i * 5, none⟩ = false ∧ w.frozen? ⟨g, i * 5 + 1, none⟩ = false ∧ w.frozen? ⟨g, i * 5 + 2, none⟩ = false ∧ w.frozen? ⟨g, i * 5 + 3, none⟩ = false ∧ w.frozen? ⟨g, i * 5 + 4, none⟩ = false := by
  have hr := fldRow_at l i hi
  have hc : ∀ j, w.cell? ⟨g, j, none⟩ = (fldRow l)[j]? := fun j => by rw [Bxs.cell h j]; simp
  rw [← hc, ← hc, ← hc, ← hc, ← hc] at hr
  exact ⟨hr, Bxs.fr h _, Bxs.fr h _, Bxs.fr h _, Bxs.fr h _, Bxs.fr h _⟩
theorem BlkF.at {w : World} {g : Nat} {l : List Fld} (h : BlkF w g l) : FldAt w (some ⟨g, 0, none⟩) l := fun i hi => ⟨g, 0, rfl, Bxs.lt h, by rw [Nat.zero_add]; exact (h.cells i hi).1⟩
theorem BlkF.set1 {w : World} {g : Nat} {l : List Value} (h : Bxs w g 72 l.toArray) (j : Nat) (v : Value) : Bxs (w.setCell ⟨g, j, none⟩ v) g 72 (l.set j v).toArray := by
  have h1 := h.set j v
  rwa [List.setIfInBounds_toArray] at h1
theorem BlkF.set5 {w : World} {g : Nat} {l : List Fld} (h : BlkF w g l) (i : Nat) (f : Fld) : BlkF (set5 w g (i * 5) f) g (l.set i f) := by
  unfold BlkF
  rw [← fldRow_set]
  exact BlkF.set1 (BlkF.set1 (BlkF.set1 (BlkF.set1 (BlkF.set1 h _ _) _ _) _ _) _ _) _ _
theorem fldRow_set3 : ∀ (fs : List Fld) (i : Nat) (h : i < fs.length) (s v : ByteArray) (g : Bool), ((((fldRow fs).set (i * 5 + 2) (.string s)).set (i * 5 + 3) (.string v)).set (i * 5 + 4) (.bool g)) = fldRow (fs.set i ⟨fs[i].n, fs[i].c, s, v, g⟩)
  | f :: fs, 0, _, s, v, g => by simp [fldRow, fldCells]
  | f :: fs, i + 1, h, s, v, g => by
    have ih := fldRow_set3 fs i (by simpa using h) s v g
    have e1 : (i + 1) * 5 + 2 = i * 5 + 2 + 5 := by omega
    have e2 : (i + 1) * 5 + 3 = i * 5 + 3 + 5 := by omega
    have e3 : (i + 1) * 5 + 4 = i * 5 + 4 + 5 := by omega
    have e4 : fldRow (f :: fs) = .string f.n :: .string f.c :: .string f.s :: .string f.v :: .bool f.g :: fldRow fs := rfl
    rw [e1, e2, e3, e4]
    simp only [List.set_cons_succ, List.getElem_cons_succ]
    rw [ih]; rfl
theorem BlkF.set3 {w : World} {g : Nat} {l : List Fld} (h : BlkF w g l) (i : Nat) (hi : i < l.length) (s v : ByteArray) (b : Bool) : BlkF (((w.setCell ⟨g, i * 5 + 2, none⟩ (.string s)).setCell ⟨g, i * 5 + 3, none⟩ (.string v)).setCell ⟨g, i * 5 + 4, none⟩ (.bool b)) g (l.set i ⟨l[i].n, l[i].c, s, v, b⟩) := by
  unfold BlkF
  rw [← fldRow_set3 l i hi]
  exact BlkF.set1 (BlkF.set1 (BlkF.set1 h _ _) _ _) _ _
theorem made_fld (n : Nat) : madeCells #[.string ByteArray.empty, .string ByteArray.empty, .string ByteArray.empty, .string ByteArray.empty, .bool false] (n * 5) = (fldRow (List.replicate n fldE5)).toArray := by
  unfold madeCells
  apply Array.ext
  · simp [fldRow_len]
  · intro i h0 h2
    have h1 : i < n * 5 := by simpa using h0
    have hr := fldRow_at (List.replicate n fldE5) (i / 5) (by rw [List.length_replicate]; omega)
    simp only [List.getElem_replicate] at hr
    have hm : i % 5 < 5 := Nat.mod_lt _ (by omega)
    have hd : i = i / 5 * 5 + i % 5 := by omega
    have hl : i < (fldRow (List.replicate n fldE5)).length := by simpa using h2
    have hg : ∀ v, (fldRow (List.replicate n fldE5))[i]? = some v → (fldRow (List.replicate n fldE5)).toArray[i] = v := fun v hv => by
      rw [List.getElem?_eq_getElem hl] at hv
      have := Option.some.inj hv
      simpa using this
    simp only [Array.getElem_map, Array.getElem_range]
    match hq : i % 5, hm with
    | 0, _ => rw [hq] at hd; rw [hg _ (by rw [hd]; exact hr.1)]; simp [fldE5]
    | 1, _ => rw [hq] at hd; rw [hg _ (by rw [hd]; exact hr.2.1)]; simp [fldE5]
    | 2, _ => rw [hq] at hd; rw [hg _ (by rw [hd]; exact hr.2.2.1)]; simp [fldE5]
    | 3, _ => rw [hq] at hd; rw [hg _ (by rw [hd]; exact hr.2.2.2.1)]; simp [fldE5]
    | 4, _ => rw [hq] at hd; rw [hg _ (by rw [hd]; exact hr.2.2.2.2)]; simp [fldE5]
theorem run_make_fld (n : Nat) (hn : n ≤ 1048576) (w : World) :
    (Instr.makeSlice 68 (.int .i64 (n : Int)) (.int .i64 (n : Int))).run Tryz.prog w = .ok (.slice (some ⟨w.heap.size, 0, none⟩) n n) (w.alloc (.cells (fldRow (List.replicate n fldE5)).toArray 72)) := by
  obtain ⟨i0, hi, hz0, hz1, hz2⟩ := info_parts infoFld
  have := run_make (P := Tryz.prog) w 68 72 i0 _ Tryz.underlying68 hi hz0 .i64 .i64 (n : Int) (n : Int) (by omega) (by omega) (by rw [hz2]; omega) (by omega)
  rw [this, hz1]
  simp only [Int.toNat_natCast]
  rw [← made_fld]; rfl
theorem alloc_fld (w : World) (l : List Fld) : BlkF (w.alloc (.cells (fldRow l).toArray 72)) w.heap.size l := (MapKept.heap_alloc w _).1
end Go.Proofs.YtnknnfgimiljjaaGreatDoor
/-
  Blocks of rows: their cells, a row stored, a new one of rows that say nothing; rows with blocks of fields of their own.
-/
namespace Go.Proofs.YtnknnfgimiljjaaGreatDoor
open Go.RowKit Go.Lib
set_option linter.unusedVariables false
set_option maxRecDepth 20000

/-- A row as its three cells. -/
structure Rc where
  k : ByteArray
  a : Int
  v : Value
def rcCells (x : Rc) : List Value := [.string x.k, .int .i64 x.a, x.v]
def rcRow (l : List Rc) : List Value := l.flatMap rcCells
def rcE : Rc := ⟨⟨#[]⟩, 0, .slice none 0 0⟩
theorem rcRow_len (l : List Rc) : (rcRow l).length = l.length * 3 := by
  induction l with
  | nil => rfl
  | cons f l ih => unfold rcRow at *; rw [List.flatMap_cons, List.length_append, ih]; simp [rcCells]; omega
theorem rcRow_append (l m : List Rc) : rcRow (l ++ m) = rcRow l ++ rcRow m := by simp [rcRow]
theorem rcRow_at (l : List Rc) : ∀ (i : Nat) (h : i < l.length), (rcRow l)[i * 3]? = some (.string l[i].k) ∧ (rcRow l)[i * 3 + 1]? = some (.int .i64 l[i].a) ∧ (rcRow l)[i * 3 + 2]? = some l[i].v := by
  induction l with
  | nil => intro i h; simp at h
  | cons f l ih =>
    intro i h
    match i with
    | 0 => exact ⟨rfl, rfl, rfl⟩
    | i + 1 =>
      have := ih i (by simpa using h)
      rw [show (i + 1) * 3 = i * 3 + 3 by omega]
      exact this
theorem rcRow_set : ∀ (l : List Rc) (i : Nat) (x : Rc), (((rcRow l).set (i * 3) (.string x.k)).set (i * 3 + 1) (.int .i64 x.a)).set (i * 3 + 2) x.v = rcRow (l.set i x)
  | [], i, x => by simp [rcRow]
  | f :: l, 0, x => rfl
  | f :: l, i + 1, x => by
    have ih := rcRow_set l i x
    have e : rcRow (f :: l) = .string f.k :: .int .i64 f.a :: f.v :: rcRow l := rfl
    have e2 : rcRow ((f :: l).set (i + 1) x) = .string f.k :: .int .i64 f.a :: f.v :: rcRow (l.set i x) := rfl
    rw [e, e2, ← ih, show (i + 1) * 3 = i * 3 + 3 by omega]
    rfl
def BlkR (w : World) (g : Nat) (l : List Rc) : Prop := Bxs w g 70 (rcRow l).toArray
theorem BlkR.cells {w : World} {g : Nat} {l : List Rc} (h : BlkR w g l) (i : Nat) (hi : i < l.length) : (w.cell? ⟨g, i * 3, none⟩ = some (.string l[i].k) ∧ w.cell? ⟨g, i * 3 + 1, none⟩ = some (.int .i64 l[i].a) ∧ w.cell? ⟨g, i * 3 + 2, none⟩ = some l[i].v) ∧ w.frozen? ⟨g, i * 3, none⟩ = false ∧ w.frozen? ⟨g, i * 3 + 1, none⟩ = false ∧ w.frozen? ⟨g, i * 3 + 2, none⟩ = false := by
  have hr := rcRow_at l i hi
  have hc : ∀ j, w.cell? ⟨g, j, none⟩ = (rcRow l)[j]? := fun j => by rw [Bxs.cell h j]; simp
  rw [← hc, ← hc, ← hc] at hr
  exact ⟨hr, Bxs.fr h _, Bxs.fr h _, Bxs.fr h _⟩
def set3 (w : World) (g o : Nat) (x : Rc) : World := ((w.setCell ⟨g, o, none⟩ (.string x.k)).setCell ⟨g, o + 1, none⟩ (.int .i64 x.a)).setCell ⟨g, o + 2, none⟩ x.v
theorem bxs_set1 {w : World} {g : Nat} {T : TypeId} {l : List Value} (h : Bxs w g T l.toArray) (j : Nat) (v : Value) : Bxs (w.setCell ⟨g, j, none⟩ v) g T (l.set j v).toArray := by
  have h1 := h.set j v
  rwa [List.setIfInBounds_toArray] at h1
theorem BlkR.set3 {w : World} {g : Nat} {l : List Rc} (h : BlkR w g l) (i : Nat) (x : Rc) : BlkR (set3 w g (i * 3) x) g (l.set i x) := by
  unfold BlkR
  rw [← rcRow_set]
  exact bxs_set1 (bxs_set1 (bxs_set1 h _ _) _ _) _ _
theorem set3_other {w : World} {g b o : Nat} {T : TypeId} {cs : Array Value} (h : Bxs w g T cs) (hne : b ≠ g) (x : Rc) : Bxs (set3 w b o x) g T cs := ((h.other b _ hne _).other b _ hne _).other b _ hne _
theorem set3_below {B : Nat} {a w : World} (h : Below B a w) {g : Nat} (hg : B ≤ g) (o : Nat) (x : Rc) : Below B a (set3 w g o x) := ((h.setCell hg _).setCell hg _).setCell hg _
theorem infoRow : (Tryz.prog.info? 70).map (fun i => (i.zero, i.size, i.bytes)) = some (some (.agg #[.string ByteArray.empty, .int .i64 0, .slice none 0 0]), 3, 48) := by kernel_rfl
theorem made_rc (n : Nat) : madeCells #[.string ByteArray.empty, .int .i64 0, .slice none 0 0] (n * 3) = (rcRow (List.replicate n rcE)).toArray := by
  unfold madeCells
  apply Array.ext
  · simp [rcRow_len]
  · intro i h0 h2
    have h1 : i < n * 3 := by simpa using h0
    have hr := rcRow_at (List.replicate n rcE) (i / 3) (by rw [List.length_replicate]; omega)
    simp only [List.getElem_replicate] at hr
    have hm : i % 3 < 3 := Nat.mod_lt _ (by omega)
    have hd : i = i / 3 * 3 + i % 3 := by omega
    have hl : i < (rcRow (List.replicate n rcE)).length := by simpa using h2
    have hg : ∀ v, (rcRow (List.replicate n rcE))[i]? = some v → (rcRow (List.replicate n rcE)).toArray[i] = v := fun v hv => by
      rw [List.getElem?_eq_getElem hl] at hv
      have := Option.some.inj hv
      simpa using this
    simp only [Array.getElem_map, Array.getElem_range]
    match hq : i % 3, hm with
    | 0, _ => rw [hq] at hd; rw [hg _ (by rw [hd]; exact hr.1)]; simp [rcE]; rfl
    | 1, _ => rw [hq] at hd; rw [hg _ (by rw [hd]; exact hr.2.1)]; simp [rcE]
    | 2, _ => rw [hq] at hd; rw [hg _ (by rw [hd]; exact hr.2.2)]; simp [rcE]
theorem run_make_rc (n : Nat) (hn : n ≤ 1048576) (w : World) :
    (Instr.makeSlice 23 (.int .i64 (n : Int)) (.int .i64 (n : Int))).run Tryz.prog w = .ok (.slice (some ⟨w.heap.size, 0, none⟩) n n) (w.alloc (.cells (rcRow (List.replicate n rcE)).toArray 70)) := by
  obtain ⟨i0, hi, hz0, hz1, hz2⟩ := info_parts infoRow
  have := run_make (P := Tryz.prog) w 23 70 i0 _ Tryz.underlying23 hi hz0 .i64 .i64 (n : Int) (n : Int) (by omega) (by omega) (by rw [hz2]; omega) (by omega)
  rw [this, hz1]
  simp only [Int.toNat_natCast]
  rw [← made_rc]; rfl
theorem alloc_rc (w : World) (l : List Rc) : BlkR (w.alloc (.cells (rcRow l).toArray 70)) w.heap.size l := (MapKept.heap_alloc w _).1
/-! ### Rows with blocks of fields of their own -/
def rcOf (x : Rw × Nat) : Rc := ⟨x.1.k, x.1.a, .slice (some ⟨x.2, 0, none⟩) x.1.fs.length x.1.fs.length⟩
/-- The block g holds rows, the fields of each lie in a block of their own behind it. -/
structure RwsB (w : World) (g : Nat) (xs : List (Rw × Nat)) : Prop where
  blk : BlkR w g (xs.map rcOf)
  fld : ∀ x ∈ xs, BlkF w x.2 x.1.fs
  up : ∀ x ∈ xs, g < x.2
  apart : xs.Pairwise (fun x y => x.2 < y.2)
theorem RwsB.below {w w' : World} {g : Nat} {xs : List (Rw × Nat)} (h : RwsB w g xs) (hb : Below w.heap.size w w') : RwsB w' g xs := ⟨Bxs.below h.blk hb, fun x hx => (h.fld x hx).below hb, h.up, h.apart⟩
theorem RwsB.lt {w : World} {g : Nat} {xs : List (Rw × Nat)} (h : RwsB w g xs) : g < w.heap.size := Bxs.lt h.blk
theorem RwsB.at {w : World} {g : Nat} {xs : List (Rw × Nat)} (h : RwsB w g xs) : RwAt w (some ⟨g, 0, none⟩) (xs.map (·.1)) := by
  intro i hi
  have hi2 : i < xs.length := by simpa using hi
  obtain ⟨⟨c0, c1, c2⟩, -⟩ := h.blk.cells i (by simpa using hi2)
  rw [List.getElem_map] at c0 c1 c2
  have e : (xs.map (·.1))[i] = xs[i].1 := by simp
  refine ⟨g, 0, some ⟨xs[i].2, 0, none⟩, xs[i].1.fs.length, rfl, h.lt, ?_, ?_, ?_, ?_, ?_⟩
  · rw [Nat.zero_add, e]; exact c0
  · rw [Nat.zero_add, e]; exact c1
  · rw [Nat.zero_add, e]; exact c2
  · rw [e]; exact Nat.le_refl _
  · rw [e]; exact (h.fld _ (List.getElem_mem hi2)).at
end Go.Proofs.YtnknnfgimiljjaaGreatDoor
/-
  Rows of elements of any size: appended to, copied over, cleared, as the built-in functions do it. Of no program.
-/
namespace Go.Proofs.YtnknnfgimiljjaaGreatDoor
open Go.RowKit Go.Lib
set_option linter.unusedVariables false

/-- A type of slices (t) of elements (e): zero value, cells and bytes of an element. -/
structure ElT (P : Program) (t e : TypeId) (i : TypeInfo) (z : Value) (size bytes : Nat) : Prop where
  ht : P.underlying t = some (.slice e)
  hi : P.info? e = some i
  hz : i.zero = some z
  hs : i.size = size
  hb : i.bytes = bytes
  hzs : z.cells.size = size
  h0 : 0 < size
  one : ∀ v ∈ z.cells.toList, v.oneCell' = true
theorem elT_of {P : Program} {t e : TypeId} {z : Value} {size bytes : Nat} (ht : P.underlying t = some (.slice e)) (h : (P.info? e).map (fun i => (i.zero, i.size, i.bytes)) = some (some z, size, bytes)) (hzs : z.cells.size = size) (h0 : 0 < size) (one : ∀ v ∈ z.cells.toList, v.oneCell' = true) : ∃ i, ElT P t e i z size bytes := by
  obtain ⟨i, hi, a, b, c⟩ := info_parts h
  exact ⟨i, ht, hi, a, b, c, hzs, h0, one⟩
/-- The cells from p on hold these values (of none nothing is asked). -/
def CelAt (w : World) (p : Option Addr) (cs : List Value) : Prop := ∀ j (h : j < cs.length), ∃ b off, p = some ⟨b, off, none⟩ ∧ b < w.heap.size ∧ w.cell? ⟨b, off + j, none⟩ = some cs[j]
theorem CelAt.below {w w' : World} {p : Option Addr} {cs : List Value} (h : CelAt w p cs) (hb : Below w.heap.size w w') : CelAt w' p cs := by
  intro i hi
  obtain ⟨b, off, rfl, h1, h2⟩ := h i hi
  exact ⟨b, off, rfl, Nat.lt_of_lt_of_le h1 hb.size, (hb.cell (p := ⟨b, off + i, none⟩) h1).trans h2⟩
theorem CelAt.nil (w : World) (p : Option Addr) : CelAt w p [] := fun i h => by simp at h
theorem CelAt.some_of {w : World} {p : Option Addr} {cs : List Value} (h : CelAt w p cs) (h0 : 0 < cs.length) : ∃ b off, p = some ⟨b, off, none⟩ := by
  obtain ⟨b, off, e, -⟩ := h 0 h0
  exact ⟨b, off, e⟩
theorem CelAt.src {w : World} {b off : Nat} {cs : List Value} (h : CelAt w (some ⟨b, off, none⟩) cs) : ∀ j u, cs[j]? = some u → w.cell? ((⟨b, off, none⟩ : Addr).add j) = some u := by
  intro j u hu
  obtain ⟨hj, rfl⟩ := List.getElem?_eq_some_iff.1 hu
  obtain ⟨b', off', e, _, h2⟩ := h j hj
  cases e
  rw [show (⟨b, off, none⟩ : Addr).add j = ⟨b, off + j, none⟩ by unfold Addr.add; split <;> simp_all]
  exact h2
theorem CelAt.take {w : World} {p : Option Addr} {cs : List Value} (h : CelAt w p cs) (k : Nat) : CelAt w p (cs.take k) := fun j hj => by
  obtain ⟨b, off, e, h1, h2⟩ := h j (by simp at hj; omega)
  exact ⟨b, off, e, h1, by rw [h2, List.getElem_take]⟩
theorem CelAt.drop {w : World} {b off : Nat} {cs : List Value} (h : CelAt w (some ⟨b, off, none⟩) cs) (k : Nat) : CelAt w (some ⟨b, off + k, none⟩) (cs.drop k) := fun j hj => by
  obtain ⟨b', off', e, h1, h2⟩ := h (k + j) (by simp at hj; omega)
  cases e
  exact ⟨b, off + k, rfl, h1, by rw [Nat.add_assoc, h2, List.getElem_drop]⟩
theorem own_cel {w : World} {base : Nat} {e : TypeId} {size n : Nat} {p : Option Addr} {cap : Nat} {xs : List Value} (h : w.ownsRow base e size (.slice p n cap) n xs) : CelAt w p xs := by
  rcases h.2 with ⟨e0, h0⟩ | ⟨g, cap', cur, e0, _, hg, _, _, hs, ht⟩
  · cases e0
    have hl := h.1
    intro j hj
    rw [hl, Nat.zero_mul] at hj
    omega
  · cases e0
    have hl := h.1
    intro j hj
    refine ⟨g, 0, rfl, lt_of_block hg, ?_⟩
    rw [Nat.zero_add, h.cellAt j (by omega), List.getElem?_eq_getElem hj]
/-- Where the own row of an answer lies: where it lay, or in new memory. -/
def Lies (w : World) (v v' : Value) : Prop := ∀ j, v'.ownBlock = some j → v.ownBlock = some j ∨ w.heap.size ≤ j
theorem app_cel {P : Program} {t e : TypeId} {i : TypeInfo} {z : Value} {size bytes : Nat} (E : ElT P t e i z size bytes) (ty : TypeId) (w : World) (base : Nat) (v : Value) (n : Nat) (xs : List Value) (own : w.ownsRow base e size v n xs) (p : Option Addr) (m c : Nat) (news : List Value) (hp : CelAt w p news) (hl : news.length = m * size) (one : ∀ u ∈ news, u.oneCell' = true) (hb : (n + m) * bytes ≤ 140737488355328) (hm : n + m ≤ maxLen) (hbase : base ≤ w.heap.size) :
    ∃ v' w', (Builtin.append_ #[t, t] ty #[v, .slice p m c]).run P w = .ok v' w' ∧ w'.ownsRow base e size v' (n + m) (xs ++ news) ∧ w.grownBy w' v.ownBlock ∧ Lies w v v' := by
  by_cases h0 : m = 0
  · subst h0
    have hn : news = [] := List.eq_nil_of_length_eq_zero (by simpa using hl)
    subst hn
    refine ⟨v, w, ?_, by simpa using own, World.grownBy.refl _ _, fun j hj => .inl hj⟩
    rcases own.2 with ⟨rfl, rfl⟩ | ⟨g, cap', cur, rfl, _, _, hnc, _⟩
    · cases p <;> simp [Builtin.append_, run_underlying E.ht, sizeOf, typeInfo, E.hi, Builtin.lenOf, Builtin.firstCells, loadCells, loadCellsFrom]
    · cases p <;> simp [Builtin.append_, run_underlying E.ht, sizeOf, typeInfo, E.hi, Builtin.lenOf, Builtin.firstCells, hnc, storeCells, loadCells, loadCellsFrom]
  · have hpos : 0 < news.length := by rw [hl]; exact Nat.mul_pos (by omega) E.h0
    obtain ⟨b, off, rfl⟩ := hp.some_of hpos
    obtain ⟨g, cap', w', h1, h2, h3, h4, _⟩ := run_append_lies (P := P) w t ty base e i z size bytes E.ht E.hi E.hz E.hs E.hb E.hzs E.h0 v n xs own ⟨b, off, none⟩ m c news hl hp.src one (by omega) hm hb hbase _ rfl
    refine ⟨_, w', h1, h2, h3, fun j hj => ?_⟩
    have hj : some g = some j := hj
    cases hj
    rcases h4 with h | h
    · exact .inl h
    · exact .inr (by omega)
theorem Bxs.row {w : World} {g : Nat} {T : TypeId} {cs : Array Value} (h : Bxs w g T cs) (cs' : Array Value) : Bxs (w.setRow g cs') g T cs' := setRow_heap w g cs cs' T (0, 0) h
theorem row_other (w : World) (g k : Nat) (cs : Array Value) (hne : k ≠ g) : (w.setRow g cs).heap[k]? = w.heap[k]? := by
  have : g ≠ k := fun e => hne e.symm
  simp [World.setRow, Array.getElem?_modify, this]
theorem row_size (w : World) (g : Nat) (cs : Array Value) : (w.setRow g cs).heap.size = w.heap.size := by simp [World.setRow]
theorem grown_row (w : World) (g : Nat) (cs : Array Value) : w.grownBy (w.setRow g cs) (some g) := ⟨rfl, rfl, rfl, by rw [row_size]; exact Nat.le_refl _, fun k _ hne => row_other w g k cs (fun e => hne (by rw [e]))⟩
theorem Bxs.rowOther {w : World} {g : Nat} {T : TypeId} {cs : Array Value} (h : Bxs w g T cs) (g' : Nat) (cs' : Array Value) (hne : g ≠ g') : Bxs (w.setRow g' cs') g T cs := (row_other w g' g cs' hne).trans h
theorem run_copy_bx {P : Program} {t e : TypeId} {i : TypeInfo} {z : Value} {size bytes : Nat} (E : ElT P t e i z size bytes) (ty : TypeId) (w : World) (g o dLen dCap : Nat) (a : Addr) (sLen sCap k : Nat) (cur : Array Value) (cs : List Value)
    (hg : Bxs w g e cur) (hk : k = Nat.min sLen dLen) (hn : cs.length = k * size)
    (hsrc : ∀ j v, cs[j]? = some v → w.cell? (a.add j) = some v) (hfit : o + cs.length ≤ cur.size) (h1 : ∀ v ∈ cs, v.oneCell' = true) :
    (Builtin.copy_ #[t, t] ty #[.slice (some ⟨g, o, none⟩) dLen dCap, .slice (some a) sLen sCap]).run P w =
      .ok (goInt k) (w.setRow g (cur.toList.take o ++ cs ++ cur.toList.drop (o + cs.length)).toArray) := by
  have hl := run_firstCells_some (P := P) w size k a sLen sCap cs hn hsrc
  have hst := run_storeCells_at P g o e cs 0 cur w hg (by simpa using hfit) h1
  subst hk
  simp [Builtin.copy_, run_underlying E.ht, Builtin.lenOf, sizeOf, typeInfo, E.hi, E.hs, hl, hst]
theorem run_append_bx {P : Program} {t e : TypeId} {i : TypeInfo} {z : Value} {size bytes : Nat} (E : ElT P t e i z size bytes) (ty : TypeId) (w : World) (g sLen sCap : Nat) (a : Addr) (m c : Nat) (cur : Array Value) (news : List Value)
    (hg : Bxs w g e cur) (hl : news.length = m * size) (hsrc : ∀ j v, news[j]? = some v → w.cell? (a.add j) = some v) (hroom : sLen + m ≤ sCap) (hfit : sLen * size + news.length ≤ cur.size) (h1 : ∀ v ∈ news, v.oneCell' = true) :
    (Builtin.append_ #[t, t] ty #[.slice (some ⟨g, 0, none⟩) sLen sCap, .slice (some a) m c]).run P w =
      .ok (.slice (some ⟨g, 0, none⟩) (sLen + m) sCap) (w.setRow g (cur.toList.take (sLen * size) ++ news ++ cur.toList.drop (sLen * size + news.length)).toArray) := by
  have hfc := run_firstCells_some (P := P) w size m a m c news hl hsrc
  have hst := run_storeCells_at P g (sLen * size) e news 0 cur w hg (by simpa using hfit) h1
  simp only [Nat.add_zero] at hst
  simp [Builtin.append_, run_underlying E.ht, sizeOf, typeInfo, E.hi, E.hs, Builtin.lenOf, hroom, hfc, Addr.add_lit, hst]
theorem run_clear_bx {P : Program} {t e : TypeId} {i : TypeInfo} {z : Value} {size bytes : Nat} (E : ElT P t e i z size bytes) (ty : TypeId) (w : World) (g o c : Nat) (cur : Array Value)
    (hg : Bxs w g e cur) (hfit : o + size ≤ cur.size) :
    (Builtin.clear_ #[t] ty #[.slice (some ⟨g, o, none⟩) 1 c]).run P w =
      .ok (.tuple #[]) (w.setRow g (cur.toList.take o ++ z.cells.toList ++ cur.toList.drop (o + size)).toArray) := by
  have hzc : (Builtin.zeroCells z.cells 1).toList = z.cells.toList := by
    apply List.ext_getElem
    · simp [Builtin.zeroCells]
    · intro j h1 h2
      have : j < z.cells.size := by simpa using h2
      simp [Builtin.zeroCells, Nat.mod_eq_of_lt this, getElem!_pos z.cells j this]
  have hlen : z.cells.toList.length = size := by simpa using E.hzs
  have hst := run_storeCells_at P g o e z.cells.toList 0 cur w hg (by rw [hlen]; simpa using hfit) E.one
  rw [hlen] at hst
  simp only [Nat.add_zero] at hst
  simp [Builtin.clear_, run_underlying E.ht, zeroValue, typeInfo, E.hi, E.hz, hzc, hst]
theorem own_bxs {w : World} {base : Nat} {e : TypeId} {size g n cap : Nat} {xs : List Value} (h : w.ownsRow base e size (.slice (some ⟨g, 0, none⟩) n cap) n xs) : ∃ cur, Bxs w g e cur ∧ base ≤ g ∧ n ≤ cap ∧ cap ≤ maxLen ∧ cur.size = cap * size ∧ cur.toList.take (n * size) = xs := by
  rcases h.2 with ⟨e0, _⟩ | ⟨g', cap', cur, e0, h1, h2, h3, h4, h5, h6⟩
  · cases e0
  · cases e0
    exact ⟨cur, h2, h1, h3, h4, h5, h6⟩
theorem bxs_ownE {w : World} {base : Nat} {e : TypeId} {size g n cap : Nat} {xs : List Value} {cur : Array Value} (hg : Bxs w g e cur) (hb : base ≤ g) (hn : n ≤ cap) (hm : cap ≤ maxLen) (hs : cur.size = cap * size) (ht : cur.toList.take (n * size) = xs) : w.ownsRow base e size (.slice (some ⟨g, 0, none⟩) n cap) n xs := by
  refine ⟨?_, .inr ⟨g, cap, cur, rfl, hb, hg, hn, hm, hs, ht⟩⟩
  rw [← ht, List.length_take, Array.length_toList, hs]
  exact Nat.min_eq_left (Nat.mul_le_mul_right _ hn)
theorem copy_wp {P : Program} {w : World} {o : Oper} {a : Act} {K : Act → World → Prop} {Q : Exit → Act → World → Prop} (d x : Operand) (t t' : TypeId)
    (ho : o.op = .call { callee := .builtin .copy, args := #[d, x], argTypes := #[t, t'] }) (v u : Value) (hd : a.eval d = v) (hx : a.eval x = u) (v' : Value) (w' : World)
    (hr : (Builtin.copy_ #[t, t'] o.type #[v, u]).run P w = .ok v' w') (h : K (a.put o.dst v') w') : o.wp P a w K Q := by
  unfold Oper.wp execOp
  simp only [ho, resolve, invoke, builtin, Sem.run_bind, Sem.run_pure, Result.andThen_ok, List.map_toArray, List.map_cons, List.map_nil, hd, hx, hr]
  exact h
theorem step_copy_bx {P : Program} {w : World} {ops : Array Oper} {o : Oper} {a : Act} {K : Act → World → Prop} {Q : Exit → Act → World → Prop} {E : Prop} (hgd : o.guard = none) (d x : Operand) (t t' : TypeId)
    (ho : o.op = .call { callee := .builtin .copy, args := #[d, x], argTypes := #[t, t'] }) (v u v' : Value) (w' : World) (hd : a.eval d = v) (hx : a.eval x = u)
    (hr : (Builtin.copy_ #[t, t'] o.type #[v, u]).run P w = .ok v' w') (h : K (a.put o.dst v') w') : if Region.wanted o (yielded ops a.tmps) = true then Oper.wp P o a w K Q else E := by
  rw [if_pos (by simp [Region.wanted, hgd])]
  exact copy_wp d x t t' ho v u hd hx v' w' hr h
theorem wpList_app {P : Program} {w : World} {ops : Array Oper} {rest : List Oper} {o : Oper} {a : Act} {Q : Exit → Act → World → Prop} (hgd : o.guard = none) (s x : Operand) (t t' : TypeId)
    (ho : o.op = .call { callee := .builtin .append, args := #[s, x], argTypes := #[t, t'] }) (v1 v2 v' : Value) (w' : World) (hs : a.eval s = v1) (hx : a.eval x = v2)
    (hr : (Builtin.append_ #[t, t'] o.type #[v1, v2]).run P w = .ok v' w') (h : wpList P ops Q rest (a.put o.dst v') w') : wpList P ops Q (o :: rest) a w :=
  wpList_plain hgd fun _ hK => by
    unfold Oper.wp execOp
    simp only [ho, resolve, invoke, builtin, Sem.run_bind, Sem.run_pure, Result.andThen_ok, List.map_toArray, List.map_cons, List.map_nil, hs, hx, hr]
    exact hK _ _ h
theorem wpList_copy_bx {P : Program} {w : World} {ops : Array Oper} {rest : List Oper} {o : Oper} {a : Act} {Q : Exit → Act → World → Prop} (hgd : o.guard = none) (d x : Operand) (t t' : TypeId)
    (ho : o.op = .call { callee := .builtin .copy, args := #[d, x], argTypes := #[t, t'] }) (v u v' : Value) (w' : World) (hd : a.eval d = v) (hx : a.eval x = u)
    (hr : (Builtin.copy_ #[t, t'] o.type #[v, u]).run P w = .ok v' w') (h : wpList P ops Q rest (a.put o.dst v') w') : wpList P ops Q (o :: rest) a w :=
  wpList_plain hgd fun _ hK => copy_wp d x t t' ho v u hd hx v' w' hr (hK _ _ h)
end Go.Proofs.YtnknnfgimiljjaaGreatDoor
/-
  A log of its own memory: its rows in a row of their own, the fields of each in one of their own, its leaves in one of their own.
-/
namespace Go.Proofs.YtnknnfgimiljjaaGreatDoor
open Go.RowKit Go.Lib
set_option linter.unusedVariables false
set_option maxRecDepth 20000

theorem elRow : ∃ i, ElT Tryz.prog 23 70 i (.agg #[.string ByteArray.empty, .int .i64 0, .slice none 0 0]) 3 48 :=
  elT_of Tryz.underlying23 infoRow (by kernel_rfl) (by omega) (by intro v hv; simp [Value.cells] at hv; rcases hv with rfl | rfl | rfl <;> rfl)
/-- Two own rows of elements of two types lie in two blocks. -/
theorem own_apart {w : World} {b b' : Nat} {e e' : TypeId} {s s' n n' : Nat} {v v' : Value} {xs xs' : List Value} (h : w.ownsRow b e s v n xs) (k : w.ownsRow b' e' s' v' n' xs') (hne : e ≠ e') : v.ownBlock = none ∨ v.ownBlock ≠ v'.ownBlock := by
  rcases h.2 with ⟨rfl, _⟩ | ⟨g, cap, cur, rfl, _, hg, _⟩
  · exact .inl rfl
  · rcases k.2 with ⟨rfl, _⟩ | ⟨g', cap', cur', rfl, _, hg', _⟩
    · exact .inr (by simp [Value.ownBlock])
    · refine .inr (fun e => ?_)
      have : g = g' := by simpa [Value.ownBlock] using e
      subst this
      rw [hg] at hg'
      injection hg' with h1
      injection h1 with h2 h3
      exact hne h3
theorem own_box {w : World} {base g : Nat} {e T : TypeId} {s : Nat} {v : Value} {n : Nat} {xs : List Value} {cs : Array Value} (h : w.ownsRow base e s v n xs) (hb : Bxs w g T cs) (hne : T ≠ e) : v.ownBlock ≠ some g := by
  intro he
  rcases h.2 with ⟨rfl, _⟩ | ⟨g', cap, cur, rfl, _, hg', _⟩
  · cases he
  · have : g' = g := by simpa [Value.ownBlock] using he
    subst this
    unfold Bxs at hb
    rw [hb] at hg'
    injection hg' with h1
    injection h1 with h2 h3
    exact hne h3
theorem own_low {w : World} {base base' : Nat} {e : TypeId} {s n : Nat} {v : Value} {xs : List Value} (h : w.ownsRow base e s v n xs) (hb : base' ≤ base) : w.ownsRow base' e s v n xs := ownS_mono h hb
/-- A row as its three cells, its fields in a slice. -/
def rcV (x : Rw × Value) : Rc := ⟨x.1.k, x.1.a, x.2⟩
theorem rcV_len (xs : List (Rw × Value)) : (rcRow (xs.map rcV)).length = xs.length * 3 := by rw [rcRow_len, List.length_map]
theorem one_rc (xs : List (Rw × Value)) (h : ∀ x ∈ xs, x.2.oneCell' = true) : ∀ u ∈ rcRow (xs.map rcV), u.oneCell' = true := fun u hu => by
  unfold rcRow at hu
  obtain ⟨r, hr, h1⟩ := List.mem_flatMap.1 hu
  obtain ⟨x, hx, rfl⟩ := List.mem_map.1 hr
  simp [rcCells, rcV] at h1
  rcases h1 with rfl | rfl | rfl
  · rfl
  · rfl
  · exact h x hx
/-- Rows of their own memory. -/
structure RwsO (base : Nat) (xs : List (Rw × Value)) (v : Value) (w : World) : Prop where
  own : w.ownsRow base 70 3 v xs.length (rcRow (xs.map rcV))
  fld : ∀ x ∈ xs, w.ownsRow base 72 5 x.2 x.1.fs.length (fldRow x.1.fs)
  ne : xs.Pairwise (fun x y => x.2.ownBlock = none ∨ x.2.ownBlock ≠ y.2.ownBlock)
section
variable {base base' : Nat} {xs : List (Rw × Value)} {v v1 v2 : Value} {w w' : World} {lv : List ByteArray}
theorem RwsO.nil (base : Nat) (w : World) : RwsO base [] (.slice none 0 0) w := ⟨World.ownsRow_nil _ _ _ _, (fun x hx => by cases hx), List.Pairwise.nil⟩
theorem RwsO.below (h : RwsO base xs v w) (hb : Below w.heap.size w w') : RwsO base xs v w' := ⟨ownS_below h.own hb, fun x hx => ownS_below (h.fld x hx) hb, h.ne⟩
theorem RwsO.lower (h : RwsO base xs v w) (hb : base' ≤ base) : RwsO base' xs v w := ⟨own_low h.own hb, fun x hx => own_low (h.fld x hx) hb, h.ne⟩
/-- .. and none of these blocks is the row that was written. -/
theorem RwsO.kept {row : Option Nat} (h : RwsO base xs v w) (hg : w.grownBy w' row) (h1 : v.ownBlock = none ∨ v.ownBlock ≠ row) (h2 : ∀ x ∈ xs, x.2.ownBlock = none ∨ x.2.ownBlock ≠ row) : RwsO base xs v w' := ⟨h.own.kept hg h1, fun x hx => (h.fld x hx).kept hg (h2 x hx), h.ne⟩
theorem RwsO.lt (h : RwsO base xs v w) : (∀ j, v.ownBlock = some j → base ≤ j ∧ j < w.heap.size) ∧ ∀ x ∈ xs, ∀ j, x.2.ownBlock = some j → base ≤ j ∧ j < w.heap.size := ⟨fun j hj => h.own.lt j hj, fun x hx j hj => (h.fld x hx).lt j hj⟩
/-- A box of another type is written. -/
theorem RwsO.box {T : TypeId} {cs : Array Value} {g : Nat} (h : RwsO base xs v w) (hb : Bxs w g T cs) (n1 : T ≠ 70) (n2 : T ≠ 72) (hg : w.grownBy w' (some g)) : RwsO base xs v w' :=
  h.kept hg (.inr (own_box h.own hb n1)) (fun x hx => .inr (own_box (h.fld x hx) hb n2))
theorem RwsO.form (h : RwsO base xs v w) : ∃ p c, v = .slice p xs.length c ∧ xs.length ≤ c := by
  rcases h.own.2 with ⟨h0, h1⟩ | ⟨g, cap, cur, h1, _, _, h4, _⟩
  · exact ⟨none, 0, by rw [h0, h1], by omega⟩
  · exact ⟨_, _, h1, h4⟩
theorem RwsO.at {p : Option Addr} {c : Nat} (h : RwsO base xs (.slice p xs.length c) w) : RwAt w p (xs.map (·.1)) := by
  intro i hi
  have hi2 : i < xs.length := by simpa using hi
  have hc := own_cel h.own
  have hr := rcRow_at (xs.map rcV) i (by simpa using hi2)
  have hl := rcV_len xs
  obtain ⟨b, off, rfl, hb, h1⟩ := hc (i * 3) (by omega)
  have g : ∀ j (hj : j < (rcRow (xs.map rcV)).length), w.cell? ⟨b, off + j, none⟩ = (rcRow (xs.map rcV))[j]? := fun j hj => by
    obtain ⟨b', off', e, _, h3⟩ := hc j hj
    cases e
    rw [h3, List.getElem?_eq_getElem hj]
  have ev : (xs.map rcV)[i]'(by simpa using hi2) = ⟨xs[i].1.k, xs[i].1.a, xs[i].2⟩ := by simp [rcV]
  rw [ev] at hr
  obtain ⟨q, cc, hq, hcc, hf⟩ := ownF_form (h.fld _ (List.getElem_mem hi2))
  rw [hq] at hr
  have e1 : (xs.map (·.1))[i] = xs[i].1 := by simp
  rw [e1]
  exact ⟨b, off, q, cc, rfl, hb, (g (i * 3) (by omega)).trans hr.1, by rw [Nat.add_assoc]; exact (g (i * 3 + 1) (by omega)).trans hr.2.1, by rw [Nat.add_assoc]; exact (g (i * 3 + 2) (by omega)).trans hr.2.2, hcc, hf⟩
/-- One more row, whose fields lie in memory that came later than all of these. -/
theorem RwsO.app (h : RwsO base xs v w) (x : Rw × Value) (p : Option Addr) (c : Nat) (hx : x.2.oneCell' = true) (hp : CelAt w p (rcRow [rcV x])) (hf : w.ownsRow base 72 5 x.2 x.1.fs.length (fldRow x.1.fs)) (hn : ∀ y ∈ xs, y.2.ownBlock = none ∨ y.2.ownBlock ≠ x.2.ownBlock) (hl : xs.length + 1 ≤ 1048576) (hb : base ≤ w.heap.size) :
    ∃ q d y, (Builtin.append_ #[23, 23] 23 #[v, .slice p 1 c]).run Tryz.prog w = .ok (.slice q (xs.length + 1) d) y ∧ RwsO base (xs ++ [x]) (.slice q (xs.length + 1) d) y ∧ w.grownBy y v.ownBlock ∧ Lies w v (.slice q (xs.length + 1) d) := by
  obtain ⟨i, E⟩ := elRow
  obtain ⟨v', y, h1, h2, h3, h4⟩ := app_cel E 23 w base v xs.length (rcRow (xs.map rcV)) h.own p 1 c (rcRow [rcV x]) hp (by simp [rcRow, rcCells]) (by have := one_rc [x] (fun y hy => by rw [List.mem_singleton.1 hy]; exact hx); simpa using this) (by omega) (by unfold maxLen; omega) hb
  have e0 : rcRow (xs.map rcV) ++ rcRow [rcV x] = rcRow ((xs ++ [x]).map rcV) := by rw [List.map_append, rcRow_append]; rfl
  rw [e0] at h2
  have hform : ∃ q d, v' = .slice q (xs.length + 1) d := by
    rcases h2.2 with ⟨h0, h5⟩ | ⟨g, cap, cur, h5, _⟩
    · omega
    · exact ⟨_, _, h5⟩
  obtain ⟨q, d, rfl⟩ := hform
  have far : ∀ z : Rw × Value, w.ownsRow base 72 5 z.2 z.1.fs.length (fldRow z.1.fs) → y.ownsRow base 72 5 z.2 z.1.fs.length (fldRow z.1.fs) := fun z hz => hz.kept h3 (own_apart hz h.own (by decide))
  refine ⟨q, d, y, h1, ⟨by simpa using h2, fun z hz => ?_, ?_⟩, h3, h4⟩
  · rcases List.mem_append.1 hz with g | g
    · exact far z (h.fld z g)
    · rw [List.mem_singleton.1 g]; exact far x hf
  · rw [List.pairwise_append]
    refine ⟨h.ne, List.pairwise_singleton _ _, fun a ha b hb2 => ?_⟩
    rw [List.mem_singleton.1 hb2]
    exact hn a ha
/-- A log of its own memory. -/
structure LgO (base : Nat) (xs : List (Rw × Value)) (lv : List ByteArray) (v1 v2 : Value) (w : World) : Prop where
  rws : RwsO base xs v1 w
  lvs : w.ownsRow base 9 1 v2 lv.length (strRow lv)
theorem LgO.nil (base : Nat) (w : World) : LgO base [] [] (.slice none 0 0) (.slice none 0 0) w := ⟨RwsO.nil _ _, World.ownsRow_nil _ _ _ _⟩
theorem LgO.below (h : LgO base xs lv v1 v2 w) (hb : Below w.heap.size w w') : LgO base xs lv v1 v2 w' := ⟨h.rws.below hb, ownS_below h.lvs hb⟩
theorem LgO.lower (h : LgO base xs lv v1 v2 w) (hb : base' ≤ base) : LgO base' xs lv v1 v2 w := ⟨h.rws.lower hb, own_low h.lvs hb⟩
theorem LgO.box {T : TypeId} {cs : Array Value} {g : Nat} (h : LgO base xs lv v1 v2 w) (hb : Bxs w g T cs) (n1 : T ≠ 70) (n2 : T ≠ 72) (n3 : T ≠ 9) (hg : w.grownBy w' (some g)) : LgO base xs lv v1 v2 w' := ⟨h.rws.box hb n1 n2 hg, h.lvs.kept hg (.inr (own_box h.lvs hb n3))⟩
theorem LgO.set {g : Nat} (h : LgO base xs lv v1 v2 w) (hg : g < base) (j : Nat) (x : Value) : LgO base xs lv v1 v2 (w.setCell ⟨g, j, none⟩ x) := by
  have k : w.grownBy (w.setCell ⟨g, j, none⟩ x) (some g) := by
    refine ⟨rfl, rfl, rfl, by simp [World.setCell], fun q hq hne => ?_⟩
    have hq' : g ≠ q := fun e => hne (by rw [e])
    simp [World.setCell, Array.getElem?_modify, hq']
  exact ⟨h.rws.kept k (.inr (fun e => by have := (h.rws.lt.1 g e).1; omega)) (fun y hy => .inr (fun e => by have := (h.rws.lt.2 y hy g e).1; omega)), h.lvs.kept k (.inr (fun e => by have := (h.lvs.lt g e).1; omega))⟩
/-- A log in a box at E, made since W. -/
structure LgC (W : World) (E : Nat) (xs : List (Rw × Value)) (lv : List ByteArray) (now : Int) (v1 v2 : Value) (x : World) : Prop where
  box : Bxs x E 26 #[v1, v2, .int .i64 now]
  lg : LgO W.heap.size xs lv v1 v2 x
  eb : W.heap.size ≤ E
  bel : Below W.heap.size W x
variable {W x x' : World} {E : Nat} {now : Int}
theorem LgC.below (h : LgC W E xs lv now v1 v2 x) (hb : Below x.heap.size x x') : LgC W E xs lv now v1 v2 x' := ⟨h.box.below hb, h.lg.below hb, h.eb, chainB h.bel hb⟩
theorem LgC.cells (h : LgC W E xs lv now v1 v2 x) : x.cell? ⟨E, 0, none⟩ = some v1 ∧ x.cell? ⟨E, 1, none⟩ = some v2 ∧ x.cell? ⟨E, 2, none⟩ = some (.int .i64 now) ∧ x.frozen? ⟨E, 0, none⟩ = false ∧ x.frozen? ⟨E, 1, none⟩ = false ∧ x.frozen? ⟨E, 2, none⟩ = false := ⟨h.box.cell 0, h.box.cell 1, h.box.cell 2, h.box.fr 0, h.box.fr 1, h.box.fr 2⟩
theorem set_grw (x : World) (g i : Nat) (v : Value) : x.grownBy (x.setCell ⟨g, i, none⟩ v) (some g) := by
  refine ⟨rfl, rfl, rfl, by simp [World.setCell], fun q hq hne => ?_⟩
  have hq' : g ≠ q := fun e => hne (by rw [e])
  simp [World.setCell, Array.getElem?_modify, hq']
theorem below_cel {B : Nat} {a y : World} (h : Below B a y) {g : Nat} (hg : B ≤ g) (i : Nat) (v : Value) : Below B a (y.setCell ⟨g, i, none⟩ v) := h.setCell (p := ⟨g, i, none⟩) hg v
/-- A log of its own rows and leaves is put into the box. -/
theorem LgC.put {u0 u1 u2 : Value} (k : Bxs x E 26 #[u0, u1, u2]) (hE : W.heap.size ≤ E) (hb : Below W.heap.size W x) (hl : LgO W.heap.size xs lv v1 v2 x) : LgC W E xs lv now v1 v2 (((x.setCell ⟨E, 0, none⟩ v1).setCell ⟨E, 1, none⟩ v2).setCell ⟨E, 2, none⟩ (.int .i64 now)) :=
  ⟨((k.set 0 _).set 1 _).set 2 _, (((hl.box k (by decide) (by decide) (by decide) (set_grw x E 0 v1)).box (k.set 0 v1) (by decide) (by decide) (by decide) (set_grw _ E 1 v2)).box ((k.set 0 v1).set 1 v2) (by decide) (by decide) (by decide) (set_grw _ E 2 _)), hE, below_cel (below_cel (below_cel hb hE 0 _) hE 1 _) hE 2 _⟩
/-- One more row: its fields came later than all that is there. -/
theorem LgC.app {xf : World} (h : LgC W E xs lv now v1 v2 xf) (hx : Below xf.heap.size xf x) (r : Rw) (q : Option Addr) (d : Nat) (hf : x.ownsRow xf.heap.size 72 5 (.slice q r.fs.length d) r.fs.length (fldRow r.fs)) (hl : xs.length + 1 ≤ 1048576) :
    ∃ q2 d2 y, (Builtin.append_ #[23, 23] 23 #[v1, .slice (some ⟨x.heap.size, 0, none⟩) 1 1]).run Tryz.prog (x.alloc (.cells #[.string r.k, .int .i64 r.a, .slice q r.fs.length d] 70)) = .ok (.slice q2 (xs.length + 1) d2) y ∧ LgC W E (xs ++ [(r, .slice q r.fs.length d)]) lv now (.slice q2 (xs.length + 1) d2) v2 (y.setCell ⟨E, 0, none⟩ (.slice q2 (xs.length + 1) d2)) ∧ Below W.heap.size W y ∧ y.cell? ⟨E, 0, none⟩ = some v1 ∧ y.frozen? ⟨E, 0, none⟩ = false ∧ (x.alloc (.cells #[.string r.k, .int .i64 r.a, .slice q r.fs.length d] 70)).grownBy y v1.ownBlock := by
  have hal := (Below.refl x.heap.size x).alloc (Nat.le_refl _) (.cells #[.string r.k, .int .i64 r.a, .slice q r.fs.length d] 70)
  have H := (h.below hx).below hal
  have hc : CelAt (x.alloc (.cells #[.string r.k, .int .i64 r.a, .slice q r.fs.length d] 70)) (some ⟨x.heap.size, 0, none⟩) (rcRow [rcV (r, .slice q r.fs.length d)]) := fun j hj => ⟨x.heap.size, 0, rfl, by simp, by
    rw [Nat.zero_add, (Bxs.new x 70 #[.string r.k, .int .i64 r.a, .slice q r.fs.length d]).cell j]
    have hj3 : j < 3 := by simpa [rcRow, rcCells] using hj
    match j, hj3 with
    | 0, _ => rfl
    | 1, _ => rfl
    | 2, _ => rfl⟩
  have hW := h.bel.size
  have hxz := hx.size
  obtain ⟨q2, d2, y, h1, h2, h3, h4⟩ := H.lg.rws.app (r, .slice q r.fs.length d) (some ⟨x.heap.size, 0, none⟩) 1 rfl hc (own_low (ownS_below hf hal) hW) (fun y hy => by
    cases hy2 : y.2.ownBlock with
    | none => exact .inl rfl
    | some j =>
      refine .inr (fun e => ?_)
      have a := ((h.lg.rws.lt.2 y hy) j hy2).2
      have b := (hf.lt j e.symm).1
      omega) hl H.bel.size
  have hrow : ∀ j, v1.ownBlock = some j → W.heap.size ≤ j := fun j hj => (H.lg.rws.lt.1 j hj).1
  have kb : Bxs y E 26 #[v1, v2, .int .i64 now] := H.box.grown h3 (fun e => own_box H.lg.rws.own H.box (by decide) e.symm)
  have hl2 : y.ownsRow W.heap.size 9 1 v2 lv.length (strRow lv) := H.lg.lvs.kept h3 (own_apart H.lg.lvs H.lg.rws.own (by decide))
  have hby : Below W.heap.size W y := H.bel.grown h3 H.bel.size hrow
  have ho : LgO W.heap.size (xs ++ [(r, .slice q r.fs.length d)]) lv (.slice q2 (xs.length + 1) d2) v2 y := ⟨h2, hl2⟩
  exact ⟨q2, d2, y, h1, ⟨kb.set 0 _, ho.box kb (by decide) (by decide) (by decide) (set_grw y E 0 _), h.eb, below_cel hby h.eb 0 _⟩, hby, kb.cell 0, kb.fr 0, h3⟩
end
end Go.Proofs.YtnknnfgimiljjaaGreatDoor
