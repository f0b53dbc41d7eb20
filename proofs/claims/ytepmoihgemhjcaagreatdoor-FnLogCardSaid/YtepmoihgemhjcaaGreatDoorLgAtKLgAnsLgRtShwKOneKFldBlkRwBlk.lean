/-
  Parts of one proof, laid as one text: LgAtK, LgAns, LgRt, ShwK, OneK, FldBlk, RwBlk; what each says stands at its head.
-/
import Derived.Test.YtepmoihgemhjcaaGreatDoorRows
import Derived.Test.YtepmoihgemhjcaaGreatDoorBytesDigMath
import Derived.Test.YtepmoihgemhjcaaGreatDoorTreeMathSlABxKSlBOwnS
import Derived.Test.YtepmoihgemhjcaaGreatDoorTimeBPutMathPutNumJoinedPutTextFldMath
import Derived.Test.YtepmoihgemhjcaaGreatDoorGetValGetTxtNumMathFldRdNumFromTmbMathFldRiseLgMath
import Derived.Handy
import Derived.OwnWalk
import Derived.Deep.AppendLies
import Derived.Test.YtepmoihgemhjcaaGreatDoorFldGSrcDrawsDrawKitAppSSomeDrawTreeScanMath
/-
  What holds of a log that lies in memory: its rows and leaves as cells, within the reach.
-/
namespace Go.Proofs.YtepmoihgemhjcaaGreatDoor
open Go.RowKit Go.Lib
set_option linter.unusedVariables false

/-- What holds of a log that lies in memory. -/
structure LgAt (p : Option Addr) (lv : List ByteArray) (cp : Nat) (q : Option Addr) (rs : List Rw) (cq : Nat) (w : World) : Prop where
  tx : TxtAt w p lv
  lc : lv.length ≤ cp
  ln : lv.length ≤ 1048576
  lz : TxtsLe lv
  rw : RwAt w q rs
  rc : rs.length ≤ cq
  rn : rs.length ≤ 1048576
  rz : RwsLe rs
theorem LgAt.below {p : Option Addr} {lv : List ByteArray} {cp : Nat} {q : Option Addr} {rs : List Rw} {cq : Nat} {w x : World} (h : LgAt p lv cp q rs cq w) (hb : Below w.heap.size w x) : LgAt p lv cp q rs cq x :=
  ⟨h.tx.below hb, h.lc, h.ln, h.lz, h.rw.below hb, h.rc, h.rn, h.rz⟩
end Go.Proofs.YtepmoihgemhjcaaGreatDoor
/-
  What is told of a log, in plain mathematics: the place of a row's leaf, the code and the status of a field.
-/
namespace Go.Proofs.YtepmoihgemhjcaaGreatDoor
open Go.RowKit Go.Lib
set_option linter.unusedVariables false

def plFrom (row : Int) : Nat → Nat → List ByteArray → Int
  | _, _, [] => -1
  | n, i, t :: ts => if isRl t = true then (if (n : Int) = row then (i : Int) else plFrom row (n + 1) (i + 1) ts) else plFrom row n (i + 1) ts
def plB (lv : List ByteArray) (row : Int) : Int := plFrom row 0 0 lv
def plO (rs : List Rw) (lv : List ByteArray) (now r : Int) : Int := if lgB rs lv now = true then plB lv r else -1
def tbO (rs : List Rw) (lv : List ByteArray) (now r f : Int) : Int := if lgB rs lv now = true then tbAt lv r f else -1
/-- The code of a field: it is there, it is gone, there is none. -/
def fcO (rs : List Rw) (r f : Int) : Int := if 0 ≤ r ∧ r ≤ (rs.length : Int) - 1 then (if 0 ≤ f ∧ f ≤ ((rs.getD r.toNat rwZ).fs.length : Int) - 1 then (if (fldOf rs r f).g = true then 7 else 0) else 6) else 6
def gcO (rs : List Rw) (lv : List ByteArray) (now r f : Int) : Int := if lgB rs lv now = true then fcO rs r f else 1
def stC (c : Int) : Int := if c = 0 then 1 else if c = 7 then 2 else 0
def stO (rs : List Rw) (lv : List ByteArray) (now r f : Int) : Int := if lgB rs lv now = true then stC (fcO rs r f) else 0
theorem stO_gc (rs : List Rw) (lv : List ByteArray) (now r f : Int) : stO rs lv now r f = stC (gcO rs lv now r f) := by
  unfold stO gcO
  split
  · rfl
  · rfl
theorem fcO_cases (rs : List Rw) (r f : Int) : fcO rs r f = 0 ∨ fcO rs r f = 7 ∨ fcO rs r f = 6 := by
  unfold fcO
  split
  · split
    · split
      · exact .inr (.inl rfl)
      · exact .inl rfl
    · exact .inr (.inr rfl)
  · exact .inr (.inr rfl)
theorem lg_right {rs : List Rw} {lv : List ByteArray} {now : Int} (h : lgB rs lv now = true) : rs.length ≤ 6 ∧ lv.length ≤ 64 ∧ (∀ r ∈ rs, rB r = true) := by
  unfold lgB at h
  simp only [Bool.and_eq_true, decide_eq_true_iff] at h
  refine ⟨h.1, h.2.1, fun r hr => ?_⟩
  have h2 := h.2.2.2.1
  unfold rsB at h2
  rw [List.all_eq_true] at h2
  exact (Bool.and_eq_true_iff.1 (h2 r hr)).1
end Go.Proofs.YtepmoihgemhjcaaGreatDoor
/-
  The root of a log's first leaves and its head, in plain mathematics; the leaves of a right log are small.
-/
namespace Go.Proofs.YtepmoihgemhjcaaGreatDoor
open Go.RowKit Go.Lib
set_option linter.unusedVariables false

def roO (rs : List Rw) (lv : List ByteArray) (now n : Int) : ByteArray := if lgB rs lv now = true then (if 0 ≤ n ∧ n ≤ (lv.length : Int) then treeB (lv.take n.toNat) else ByteArray.empty) else ByteArray.empty
def hdB (lv : List ByteArray) : ByteArray := putB (lv.length : Int) ++ putTextB (treeB lv)
def hdO (rs : List Rw) (lv : List ByteArray) (now : Int) : ByteArray := if lgB rs lv now = true then hdB lv else ByteArray.empty
theorem go_small (rs : List Rw) (now : Int) : ∀ (suf pre : List ByteArray) (n n' : Nat), cGo rs now pre n suf = some n' → ∀ t ∈ suf, t.size ≤ 100
  | [], _, _, _, _ => fun t h => by cases h
  | t :: ts, pre, n, n', h => by
    rw [cGo] at h
    have each : ∀ {m : Nat} {q : List ByteArray}, t.size ≤ 100 → cGo rs now q m ts = some n' → ∀ x ∈ t :: ts, x.size ≤ 100 := fun ht hc x hx => by
      rcases List.mem_cons.1 hx with rfl | hx
      · exact ht
      · exact go_small rs now ts _ _ _ hc x hx
    split at h
    · rename_i hn
      refine each ?_ h
      rw [((nx_iff _ _ _).1 hn).2]
      unfold rlB
      rw [ByteArray.size_append, digB_size]
      show 1 + 32 ≤ 100
      omega
    · split at h
      · rename_i hn ho
        refine each ?_ h
        unfold okT at ho
        simp only [Bool.and_eq_true, decide_eq_true_iff] at ho
        obtain ⟨-, -, hR, -⟩ := tr_sound ho.1
        have := (tmRaw_size (trT t)).2
        rw [hR] at this
        omega
      · cases h
theorem lg_small {rs : List Rw} {lv : List ByteArray} {now : Int} (h : lgB rs lv now = true) : ∀ t ∈ lv, t.size ≤ 100 := by
  rw [lg_eq] at h
  unfold imB at h
  simp only [Bool.and_eq_true] at h
  cases hc : cGo rs now [] 0 lv with
  | none => rw [hc] at h; exact absurd h.2.2 (by simp)
  | some n => exact go_small rs now lv [] 0 n hc
theorem ent_take {lv : List ByteArray} (h1 : lv.length ≤ 64) (h2 : ∀ t ∈ lv, t.size ≤ 100) (k : Nat) : entB (lv.take k) = true :=
  entB_true (by simp; omega) (fun j hj => h2 _ (List.mem_of_mem_take (List.getElem_mem hj)))
theorem rtSize (wx : World) : (sizeOf (Tryz.prog.elem 24)).run Tryz.prog wx = .ok 1 wx := by kernel_rfl
theorem rtElem : Tryz.prog.underlying 24 = some (.slice (Tryz.prog.elem 24)) := by kernel_rfl
theorem sl_to (q : Option Addr) (n c k : Nat) (hk : k ≤ c) (wx : World) : (Instr.slice 24 (.slice q n c) none (some (.int .i64 (k : Int))) none).run Tryz.prog wx = .ok (.slice q k c) wx := by
  rw [run_slice_h (P := Tryz.prog) wx 24 q n c rtElem .i64 (k : Int) (by omega) (by omega), rtSize]
  cases q <;> simp [sliced, Result.andThen, Addr.add]
theorem rtSizeL (wx : World) : (sizeOf (Tryz.prog.elem 83)).run Tryz.prog wx = .ok 1 wx := by kernel_rfl
theorem rtElemL : Tryz.prog.underlying 83 = some (.slice (Tryz.prog.elem 83)) := by kernel_rfl
theorem sl_lv (q : Option Addr) (n c k : Nat) (hk : k ≤ c) (wx : World) : (Instr.slice 83 (.slice q n c) none (some (.int .i64 (k : Int))) none).run Tryz.prog wx = .ok (.slice q k c) wx := by
  rw [run_slice_h (P := Tryz.prog) wx 83 q n c rtElemL .i64 (k : Int) (by omega) (by omega), rtSizeL]
  cases q <;> simp [sliced, Result.andThen, Addr.add]
theorem putTextB_32 {t : ByteArray} (h : t.size = 32) : (putTextB t).size ≤ 42 := by
  have := putTextB_le t (by omega)
  omega
end Go.Proofs.YtepmoihgemhjcaaGreatDoor
/-
  What is shown of a row: two rows of texts of its own in a box, apart; append of one text.
-/
namespace Go.Proofs.YtepmoihgemhjcaaGreatDoor
open Go.RowKit Go.Lib
set_option linter.unusedVariables false
set_option maxRecDepth 20000

theorem infoStr7 : (Tryz.prog.info? 9).map (fun i => (i.zero, i.size, i.bytes)) = some (some (.string ByteArray.empty), 1, 16) := by kernel_rfl
theorem app_str (w : World) (base : Nat) (v : Value) (l : List ByteArray) (own : w.ownsRow base 9 1 v l.length (strRow l)) (t : ByteArray) (hl : l.length + 1 ≤ 1048576) (hbase : base ≤ w.heap.size) :
    ∃ g c w', (Builtin.append_ #[24, 24] 24 #[v, .slice (some ⟨w.heap.size, 0, none⟩) 1 1]).run Tryz.prog (w.alloc (.cells #[.string t] 9)) = .ok (.slice (some ⟨g, 0, none⟩) (l.length + 1) c) w' ∧
      w'.ownsRow base 9 1 (.slice (some ⟨g, 0, none⟩) (l.length + 1) c) (l ++ [t]).length (strRow (l ++ [t])) ∧ (w.alloc (.cells #[.string t] 9)).grownBy w' v.ownBlock ∧ (v.ownBlock = some g ∨ g = w.heap.size + 1) := by
  obtain ⟨i0, hi, hz0, hz1, hz2⟩ := info_parts infoStr7
  obtain ⟨g, c, w', h1, h2, h3, h4, _⟩ := run_append_lies (P := Tryz.prog) (w.alloc (.cells #[.string t] 9)) 24 24 base 9 i0 _ 1 16 Tryz.underlying24 hi hz0 hz1 hz2 rfl (by omega) v l.length (strRow l) (own.alloc _) ⟨w.heap.size, 0, none⟩ 1 1 [.string t] rfl (fun j u hu => by
      have hj : j < 1 := by
        rcases Nat.lt_or_ge j 1 with q | q
        · exact q
        · rw [List.getElem?_eq_none (by exact q)] at hu; cases hu
      have hadd : (⟨w.heap.size, 0, none⟩ : Addr).add j = ⟨w.heap.size, 0 + j, none⟩ := by unfold Addr.add; split <;> simp_all
      rw [hadd, Nat.zero_add, World.cell?_alloc_mark]
      match j, hj with
      | 0, _ => exact hu) (fun u hu => by
      simp at hu
      subst hu; rfl) (by omega) (by unfold maxLen; omega) (by omega) (by simp; omega) (w.heap.size + 1) (by simp)
  refine ⟨g, c, w', h1, ?_, h3, h4⟩
  have e1 : (l ++ [t]).length = l.length + 1 := by simp
  have e2 : strRow (l ++ [t]) = strRow l ++ [.string t] := by simp [strRow]
  rw [e1, e2]; exact h2
theorem ownR_ne {w : World} {base g : Nat} {e T : TypeId} {s : Nat} {v : Value} {n : Nat} {xs : List Value} {cs : Array Value} (h : w.ownsRow base e s v n xs) (hb : Bxs w g T cs) (hne : T ≠ e) : v.ownBlock ≠ some g := by
  intro he
  rcases h.2 with ⟨rfl, _⟩ | ⟨g', cap, cur, rfl, _, hg', _⟩
  · cases he
  · have : g' = g := by simpa [Value.ownBlock] using he
    subst this
    unfold Bxs at hb
    rw [hb] at hg'
    injection hg' with h1
    injection h1 with h2 h3
    exact hne h3
theorem ownR_grown {w w' : World} {base : Nat} {e : TypeId} {s : Nat} {v : Value} {n : Nat} {xs : List Value} (h : w.ownsRow base e s v n xs) {row : Option Nat} (hg : w.grownBy w' row) (hne : ∀ g, v.ownBlock = some g → row ≠ some g) : w'.ownsRow base e s v n xs := by
  refine ⟨h.1, ?_⟩
  rcases h.2 with h0 | ⟨g, cap, cur, rfl, h2, h3, h4⟩
  · exact .inl h0
  · exact .inr ⟨g, cap, cur, rfl, h2, (hg.block g (lt_of_block h3) (Ne.symm (hne g rfl))).trans h3, h4⟩
/-- A box with two rows of texts of its own, apart. -/
structure Two (W : World) (Z : Nat) (T : TypeId) (cs : Array Value) (v1 v2 : Value) (a b : List ByteArray) (x : World) : Prop where
  bel : Below W.heap.size W x
  hZ : W.heap.size ≤ Z
  hT : T ≠ 9
  box : Bxs x Z T cs
  own1 : x.ownsRow W.heap.size 9 1 v1 a.length (strRow a)
  own2 : x.ownsRow W.heap.size 9 1 v2 b.length (strRow b)
  ap : ∀ g, v1.ownBlock = some g → v2.ownBlock ≠ some g
theorem Two.below {W : World} {Z : Nat} {T : TypeId} {cs : Array Value} {v1 v2 : Value} {a b : List ByteArray} {x y : World} (h : Two W Z T cs v1 v2 a b x) (hb : Below x.heap.size x y) : Two W Z T cs v1 v2 a b y :=
  ⟨chainB h.bel hb, h.hZ, h.hT, h.box.below hb, ownS_below h.own1 hb, ownS_below h.own2 hb, h.ap⟩
theorem Two.swap {W : World} {Z : Nat} {T : TypeId} {cs : Array Value} {v1 v2 : Value} {a b : List ByteArray} {x : World} (h : Two W Z T cs v1 v2 a b x) : Two W Z T cs v2 v1 b a x :=
  ⟨h.bel, h.hZ, h.hT, h.box, h.own2, h.own1, fun g hg he => h.ap g he hg⟩
theorem Two.put {W : World} {Z : Nat} {T : TypeId} {cs : Array Value} {v1 v2 : Value} {a b : List ByteArray} {x : World} (h : Two W Z T cs v1 v2 a b x) (j : Nat) (u : Value) : Two W Z T (cs.setIfInBounds j u) v1 v2 a b (x.setCell ⟨Z, j, none⟩ u) :=
  ⟨h.bel.setCell h.hZ _, h.hZ, h.hT, h.box.set j u, ownsRow_setCell_other h.own1 (ownR_ne h.own1 h.box h.hT) _, ownsRow_setCell_other h.own2 (ownR_ne h.own2 h.box h.hT) _, h.ap⟩
/-- One text is put behind the first row, and the row into the box. -/
theorem Two.app2 {W : World} {Z : Nat} {T : TypeId} {cs : Array Value} {v1 v2 : Value} {a b : List ByteArray} {x : World} (h : Two W Z T cs v1 v2 a b x) (j : Nat) (t : ByteArray) (hj : cs[j]? = some v1) (hl : a.length + 1 ≤ 1048576) :
    ∃ g c y, (Builtin.append_ #[24, 24] 24 #[v1, .slice (some ⟨x.heap.size, 0, none⟩) 1 1]).run Tryz.prog (x.alloc (.cells #[.string t] 9)) = .ok (.slice (some ⟨g, 0, none⟩) (a.length + 1) c) y ∧
      Two W Z T (cs.setIfInBounds j (.slice (some ⟨g, 0, none⟩) (a.length + 1) c)) (.slice (some ⟨g, 0, none⟩) (a.length + 1) c) v2 (a ++ [t]) b (y.setCell ⟨Z, j, none⟩ (.slice (some ⟨g, 0, none⟩) (a.length + 1) c)) ∧ y.cell? ⟨Z, j, none⟩ = some v1 ∧ y.frozen? ⟨Z, j, none⟩ = false ∧ Below W.heap.size W y ∧ ∀ g' T' cs', T' ≠ 9 → g' ≠ Z → Bxs x g' T' cs' → Bxs y g' T' cs' ∧ Bxs (y.setCell ⟨Z, j, none⟩ (.slice (some ⟨g, 0, none⟩) (a.length + 1) c)) g' T' cs' := by
  obtain ⟨g, c, y, h1, h2, h3, h4⟩ := app_str x W.heap.size v1 a h.own1 t hl h.bel.size
  have hb : Bxs y Z T cs := (h.box.alloc _).grown h3 (Ne.symm (ownR_ne h.own1 h.box h.hT))
  have hB : Below W.heap.size W y := (h.bel.alloc h.bel.size _).grown h3 (by have := h.bel.size; rw [szA]; omega) (fun j hj => (h.own1.lt j hj).1)
  have o2 : y.ownsRow W.heap.size 9 1 v2 b.length (strRow b) := ownR_grown (h.own2.alloc _) h3 (fun g' hg' he => h.ap g' he hg')
  have hap : ∀ g', (Value.slice (some ⟨g, 0, none⟩) (a.length + 1) c).ownBlock = some g' → v2.ownBlock ≠ some g' := by
    intro g' hg' he
    have : g = g' := by simpa [Value.ownBlock] using hg'
    subst this
    rcases h4 with h4 | h4
    · exact h.ap g h4 he
    · have := (h.own2.lt g he).2; omega
  refine ⟨g, c, y, h1, ⟨hB.setCell h.hZ _, h.hZ, h.hT, hb.set j _, ownsRow_setCell_other h2 (ownR_ne h2 hb h.hT) _, ownsRow_setCell_other o2 (ownR_ne o2 hb h.hT) _, hap⟩, ?_, hb.fr j, hB, ?_⟩
  · rw [hb.cell j]; exact hj
  · intro g' T' cs' hT' hne hK
    have hk := (hK.alloc (.cells #[.string t] 9)).grown h3 (Ne.symm (ownR_ne h.own1 hK hT'))
    exact ⟨hk, hk.other _ _ (Ne.symm hne) _⟩
theorem Two.app {W : World} {Z : Nat} {T : TypeId} {cs : Array Value} {v1 v2 : Value} {a b : List ByteArray} {x : World} (h : Two W Z T cs v1 v2 a b x) (j : Nat) (t : ByteArray) (hj : cs[j]? = some v1) (hl : a.length + 1 ≤ 1048576) :
    ∃ g c y, (Builtin.append_ #[24, 24] 24 #[v1, .slice (some ⟨x.heap.size, 0, none⟩) 1 1]).run Tryz.prog (x.alloc (.cells #[.string t] 9)) = .ok (.slice (some ⟨g, 0, none⟩) (a.length + 1) c) y ∧
      Two W Z T (cs.setIfInBounds j (.slice (some ⟨g, 0, none⟩) (a.length + 1) c)) (.slice (some ⟨g, 0, none⟩) (a.length + 1) c) v2 (a ++ [t]) b (y.setCell ⟨Z, j, none⟩ (.slice (some ⟨g, 0, none⟩) (a.length + 1) c)) ∧ y.cell? ⟨Z, j, none⟩ = some v1 ∧ y.frozen? ⟨Z, j, none⟩ = false ∧ Below W.heap.size W y := by
  obtain ⟨g, c, y, h1, h2, h3, h4, h5, -⟩ := h.app2 j t hj hl
  exact ⟨g, c, y, h1, h2, h3, h4, h5⟩
/-- What is shown. -/
structure Shw where
  k : ByteArray
  at_ : Int
  ns : List ByteArray
  cs : List ByteArray
  ix : Int
  s : ByteArray
  v : ByteArray
def shwZ : Shw := ⟨ByteArray.empty, 0, [], [], 0, ByteArray.empty, ByteArray.empty⟩
/-- Its two rows are the call's own, and apart. -/
def ShwO (base : Nat) (o : Shw) (v1 v2 : Value) (w : World) : Prop := w.ownsRow base 9 1 v1 o.ns.length (strRow o.ns) ∧ w.ownsRow base 9 1 v2 o.cs.length (strRow o.cs) ∧ ∀ g, v1.ownBlock = some g → v2.ownBlock ≠ some g
theorem ShwO.nil (base : Nat) (w : World) : ShwO base shwZ (.slice none 0 0) (.slice none 0 0) w := ⟨World.ownsRow_nil _ _ _ _, World.ownsRow_nil _ _ _ _, fun g hg => by cases hg⟩
def set8 (w : World) (g : Nat) (x0 x1 x2 x3 x4 x5 x6 x7 : Value) : World := (((((((w.setCell ⟨g, 0, none⟩ x0).setCell ⟨g, 1, none⟩ x1).setCell ⟨g, 2, none⟩ x2).setCell ⟨g, 3, none⟩ x3).setCell ⟨g, 4, none⟩ x4).setCell ⟨g, 5, none⟩ x5).setCell ⟨g, 6, none⟩ x6).setCell ⟨g, 7, none⟩ x7
theorem below_set8 {B : Nat} {a w : World} (h : Below B a w) {g : Nat} (hg : B ≤ g) (x0 x1 x2 x3 x4 x5 x6 x7 : Value) : Below B a (set8 w g x0 x1 x2 x3 x4 x5 x6 x7) := (((((((h.setCell hg _).setCell hg _).setCell hg _).setCell hg _).setCell hg _).setCell hg _).setCell hg _).setCell hg _
theorem own_set8 {w : World} {base g : Nat} {e : TypeId} {s : Nat} {v : Value} {n : Nat} {xs : List Value} (h : w.ownsRow base e s v n xs) (hg : g < base) (x0 x1 x2 x3 x4 x5 x6 x7 : Value) : (set8 w g x0 x1 x2 x3 x4 x5 x6 x7).ownsRow base e s v n xs :=
  ownsRow_setCell_below (ownsRow_setCell_below (ownsRow_setCell_below (ownsRow_setCell_below (ownsRow_setCell_below (ownsRow_setCell_below (ownsRow_setCell_below (ownsRow_setCell_below h hg _) hg _) hg _) hg _) hg _) hg _) hg _) hg _
theorem Bxs.eight {w : World} {g : Nat} {T : TypeId} {a b c d e f h i : Value} (k : Bxs w g T #[a, b, c, d, e, f, h, i]) : w.cell? ⟨g, 0, none⟩ = some a ∧ w.cell? ⟨g, 1, none⟩ = some b ∧ w.cell? ⟨g, 2, none⟩ = some c ∧ w.cell? ⟨g, 3, none⟩ = some d ∧ w.cell? ⟨g, 4, none⟩ = some e ∧ w.cell? ⟨g, 5, none⟩ = some f ∧ w.cell? ⟨g, 6, none⟩ = some h ∧ w.cell? ⟨g, 7, none⟩ = some i := ⟨k.cell 0, k.cell 1, k.cell 2, k.cell 3, k.cell 4, k.cell 5, k.cell 6, k.cell 7⟩
theorem Bxs.free8 {w : World} {g : Nat} {T : TypeId} {cs : Array Value} (k : Bxs w g T cs) : w.frozen? ⟨g, 0, none⟩ = false ∧ w.frozen? ⟨g, 1, none⟩ = false ∧ w.frozen? ⟨g, 2, none⟩ = false ∧ w.frozen? ⟨g, 3, none⟩ = false ∧ w.frozen? ⟨g, 4, none⟩ = false ∧ w.frozen? ⟨g, 5, none⟩ = false ∧ w.frozen? ⟨g, 6, none⟩ = false ∧ w.frozen? ⟨g, 7, none⟩ = false := ⟨k.fr 0, k.fr 1, k.fr 2, k.fr 3, k.fr 4, k.fr 5, k.fr 6, k.fr 7⟩
theorem TxtAt.some_of7 {w : World} {p : Option Addr} {ss : List ByteArray} (h : TxtAt w p ss) (h0 : 0 < ss.length) : ∃ b off, p = some ⟨b, off, none⟩ ∧ b < w.heap.size := by
  obtain ⟨b, off, rfl, hb, -⟩ := h 0 h0
  exact ⟨b, off, rfl, hb⟩
end Go.Proofs.YtepmoihgemhjcaaGreatDoor
/-
  A field put behind a row of fields of one's own; a box with such a row.
-/
namespace Go.Proofs.YtepmoihgemhjcaaGreatDoor
open Go.RowKit Go.Lib
set_option linter.unusedVariables false

theorem infoFld : (Tryz.prog.info? 103).map (fun i => (i.zero, i.size, i.bytes)) = some (some (.agg #[.string ByteArray.empty, .string ByteArray.empty, .string ByteArray.empty, .string ByteArray.empty, .bool false]), 5, 72) := by kernel_rfl
theorem app_fld (w : World) (base : Nat) (v : Value) (l : List Fld) (own : w.ownsRow base 103 5 v l.length (fldRow l)) (fn fc fs fv : ByteArray) (fg : Bool) (hl : l.length + 1 ≤ 1048576) (hbase : base ≤ w.heap.size) :
    ∃ g c w', (Builtin.append_ #[27, 27] 27 #[v, .slice (some ⟨w.heap.size, 0, none⟩) 1 1]).run Tryz.prog (w.alloc (.cells #[.string fn, .string fc, .string fs, .string fv, .bool fg] 103)) = .ok (.slice (some ⟨g, 0, none⟩) (l.length + 1) c) w' ∧
      w'.ownsRow base 103 5 (.slice (some ⟨g, 0, none⟩) (l.length + 1) c) (l ++ [(⟨fn, fc, fs, fv, fg⟩ : Fld)]).length (fldRow (l ++ [(⟨fn, fc, fs, fv, fg⟩ : Fld)])) ∧ (w.alloc (.cells #[.string fn, .string fc, .string fs, .string fv, .bool fg] 103)).grownBy w' v.ownBlock ∧ (v.ownBlock = some g ∨ g = w.heap.size + 1) := by
  obtain ⟨i0, hi, hz0, hz1, hz2⟩ := info_parts infoFld
  obtain ⟨g, c, w', h1, h2, h3, h4, _⟩ := run_append_lies (P := Tryz.prog) (w.alloc (.cells #[.string fn, .string fc, .string fs, .string fv, .bool fg] 103)) 27 27 base 103 i0 _ 5 72 Tryz.underlying27 hi hz0 hz1 hz2 rfl (by omega) v l.length (fldRow l) (own.alloc _) ⟨w.heap.size, 0, none⟩ 1 1 (fldRow [(⟨fn, fc, fs, fv, fg⟩ : Fld)]) rfl (fun j u hu => by
      have hj : j < 5 := by
        rcases Nat.lt_or_ge j 5 with q | q
        · exact q
        · rw [List.getElem?_eq_none (by rw [fldRow_len]; exact q)] at hu; cases hu
      have hadd : (⟨w.heap.size, 0, none⟩ : Addr).add j = ⟨w.heap.size, 0 + j, none⟩ := by unfold Addr.add; split <;> simp_all
      rw [hadd, Nat.zero_add, World.cell?_alloc_mark]
      match j, hj with
      | 0, _ => exact hu
      | 1, _ => exact hu
      | 2, _ => exact hu
      | 3, _ => exact hu
      | 4, _ => exact hu) (fun u hu => by
      simp [fldRow, fldCells] at hu
      rcases hu with rfl | rfl | rfl | rfl | rfl <;> rfl) (by omega) (by unfold maxLen; omega) (by omega) (by simp; omega) (w.heap.size + 1) (by simp)
  refine ⟨g, c, w', h1, ?_, h3, h4⟩
  have e1 : (l ++ [(⟨fn, fc, fs, fv, fg⟩ : Fld)]).length = l.length + 1 := by simp
  rw [e1, fldRow_append]; exact h2
/-- A box with one row of fields of its own. -/
structure One7 (W : World) (Z : Nat) (T : TypeId) (cs : Array Value) (v : Value) (l : List Fld) (x : World) : Prop where
  bel : Below W.heap.size W x
  hZ : W.heap.size ≤ Z
  hT : T ≠ 103
  box : Bxs x Z T cs
  own : x.ownsRow W.heap.size 103 5 v l.length (fldRow l)
theorem One7.below {W : World} {Z : Nat} {T : TypeId} {cs : Array Value} {v : Value} {l : List Fld} {x y : World} (h : One7 W Z T cs v l x) (hb : Below x.heap.size x y) : One7 W Z T cs v l y := ⟨chainB h.bel hb, h.hZ, h.hT, h.box.below hb, ownS_below h.own hb⟩
theorem One7.app2 {W : World} {Z : Nat} {T : TypeId} {cs : Array Value} {v : Value} {l : List Fld} {x : World} (h : One7 W Z T cs v l x) (j : Nat) (fn fc fs fv : ByteArray) (fg : Bool) (hj : cs[j]? = some v) (hl : l.length + 1 ≤ 1048576) :
    ∃ g c y, (Builtin.append_ #[27, 27] 27 #[v, .slice (some ⟨x.heap.size, 0, none⟩) 1 1]).run Tryz.prog (x.alloc (.cells #[.string fn, .string fc, .string fs, .string fv, .bool fg] 103)) = .ok (.slice (some ⟨g, 0, none⟩) (l.length + 1) c) y ∧
      One7 W Z T (cs.setIfInBounds j (.slice (some ⟨g, 0, none⟩) (l.length + 1) c)) (.slice (some ⟨g, 0, none⟩) (l.length + 1) c) (l ++ [⟨fn, fc, fs, fv, fg⟩]) (y.setCell ⟨Z, j, none⟩ (.slice (some ⟨g, 0, none⟩) (l.length + 1) c)) ∧ y.cell? ⟨Z, j, none⟩ = some v ∧ y.frozen? ⟨Z, j, none⟩ = false ∧ Below W.heap.size W y ∧ (x.alloc (.cells #[.string fn, .string fc, .string fs, .string fv, .bool fg] 103)).grownBy y v.ownBlock := by
  obtain ⟨g, c, y, h1, h2, h3, h4⟩ := app_fld x W.heap.size v l h.own fn fc fs fv fg hl h.bel.size
  have hb : Bxs y Z T cs := (h.box.alloc _).grown h3 (Ne.symm (ownR_ne h.own h.box h.hT))
  have hB : Below W.heap.size W y := (h.bel.alloc h.bel.size _).grown h3 (by have := h.bel.size; rw [szA]; omega) (fun j hj => (h.own.lt j hj).1)
  refine ⟨g, c, y, h1, ⟨hB.setCell h.hZ _, h.hZ, h.hT, hb.set j _, ownsRow_setCell_other h2 (ownR_ne h2 hb h.hT) _⟩, ?_, hb.fr j, hB, h3⟩
  rw [hb.cell j]; exact hj
theorem One7.app {W : World} {Z : Nat} {T : TypeId} {cs : Array Value} {v : Value} {l : List Fld} {x : World} (h : One7 W Z T cs v l x) (j : Nat) (fn fc fs fv : ByteArray) (fg : Bool) (hj : cs[j]? = some v) (hl : l.length + 1 ≤ 1048576) :
    ∃ g c y, (Builtin.append_ #[27, 27] 27 #[v, .slice (some ⟨x.heap.size, 0, none⟩) 1 1]).run Tryz.prog (x.alloc (.cells #[.string fn, .string fc, .string fs, .string fv, .bool fg] 103)) = .ok (.slice (some ⟨g, 0, none⟩) (l.length + 1) c) y ∧
      One7 W Z T (cs.setIfInBounds j (.slice (some ⟨g, 0, none⟩) (l.length + 1) c)) (.slice (some ⟨g, 0, none⟩) (l.length + 1) c) (l ++ [⟨fn, fc, fs, fv, fg⟩]) (y.setCell ⟨Z, j, none⟩ (.slice (some ⟨g, 0, none⟩) (l.length + 1) c)) ∧ y.cell? ⟨Z, j, none⟩ = some v ∧ y.frozen? ⟨Z, j, none⟩ = false ∧ Below W.heap.size W y := by
  obtain ⟨g, c, y, h1, h2, h3, h4, h5, -⟩ := h.app2 j fn fc fs fv fg hj hl
  exact ⟨g, c, y, h1, h2, h3, h4, h5⟩
theorem getD_at {l : List ByteArray} {i : Nat} (h : i < l.length) : l.getD i ByteArray.empty = l[i] := by rw [List.getD_eq_getElem?_getD, List.getElem?_eq_getElem h]; rfl
end Go.Proofs.YtepmoihgemhjcaaGreatDoor
/-
  A block of fields that was made, and is written field by field.
-/
namespace Go.Proofs.YtepmoihgemhjcaaGreatDoor
open Go.RowKit Go.Lib
set_option linter.unusedVariables false

def fldE5 : Fld := ⟨ByteArray.empty, ByteArray.empty, ByteArray.empty, ByteArray.empty, false⟩
/-- A block that holds these fields, and nothing else. -/
def BlkF (w : World) (g : Nat) (l : List Fld) : Prop := Bxs w g 103 (fldRow l).toArray
theorem BlkF.below {w w' : World} {g : Nat} {l : List Fld} (h : BlkF w g l) (hb : Below w.heap.size w w') : BlkF w' g l := Bxs.below h hb
theorem BlkF.cells {w : World} {g : Nat} {l : List Fld} (h : BlkF w g l) (i : Nat) (hi : i < l.length) : (w.cell? ⟨g, i * 5, none⟩ = some (.string l[i].n) ∧ w.cell? ⟨g, i * 5 + 1, none⟩ = some (.string l[i].c) ∧ w.cell? ⟨g, i * 5 + 2, none⟩ = some (.string l[i].s) ∧ w.cell? ⟨g, i * 5 + 3, none⟩ = some (.string l[i].v) ∧ w.cell? ⟨g, i * 5 + 4, none⟩ = some (.bool l[i].g)) ∧ w.frozen? ⟨g, i * 5, none⟩ = false ∧ w.frozen? ⟨g, i * 5 + 1, none⟩ = false ∧ w.frozen? ⟨g, i * 5 + 2, none⟩ = false ∧ w.frozen? ⟨g, i * 5 + 3, none⟩ = false ∧ w.frozen? ⟨g, i * 5 + 4, none⟩ = false := by
  have hr := fldRow_at l i hi
  have hc : ∀ j, w.cell? ⟨g, j, none⟩ = (fldRow l)[j]? := fun j => by rw [Bxs.cell h j]; simp
  rw [← hc, ← hc, ← hc, ← hc, ← hc] at hr
  exact ⟨hr, Bxs.fr h _, Bxs.fr h _, Bxs.fr h _, Bxs.fr h _, Bxs.fr h _⟩
theorem BlkF.at {w : World} {g : Nat} {l : List Fld} (h : BlkF w g l) : FldAt w (some ⟨g, 0, none⟩) l := fun i hi => ⟨g, 0, rfl, Bxs.lt h, by rw [Nat.zero_add]; exact (h.cells i hi).1⟩
theorem BlkF.set1 {w : World} {g : Nat} {l : List Value} (h : Bxs w g 103 l.toArray) (j : Nat) (v : Value) : Bxs (w.setCell ⟨g, j, none⟩ v) g 103 (l.set j v).toArray := by
  have h1 := h.set j v
  rwa [List.setIfInBounds_toArray] at h1
theorem BlkF.set5 {w : World} {g : Nat} {l : List Fld} (h : BlkF w g l) (i : Nat) (f : Fld) : BlkF (set5 w g (i * 5) f) g (l.set i f) := by
  unfold BlkF
  rw [← fldRow_set]
  exact BlkF.set1 (BlkF.set1 (BlkF.set1 (BlkF.set1 (BlkF.set1 h _ _) _ _) _ _) _ _) _ _
theorem fldRow_set3 : ∀ (fs : List Fld) (i : Nat) (h : i < fs.length) (s v : ByteArray) (g : Bool), ((((fldRow fs).set (i * 5 + 2) (.string s)).set (i * 5 + 3) (.string v)).set (i * 5 + 4) (.bool g)) = fldRow (fs.set i ⟨fs[i].n, fs[i].c, s, v, g⟩)
  | f :: fs, 0, _, s, v, g => by simp [fldRow, fldCells]
  | f :: fs, i + 1, h, s, v, g => by
    have ih := fldRow_set3 fs i (by simpa using h) s v g
    have e1 : (i + 1) * 5 + 2 = i * 5 + 2 + 5 := by omega
    have e2 : (i + 1) * 5 + 3 = i * 5 + 3 + 5 := by omega
    have e3 : (i + 1) * 5 + 4 = i * 5 + 4 + 5 := by omega
    have e4 : fldRow (f :: fs) = .string f.n :: .string f.c :: .string f.s :: .string f.v :: .bool f.g :: fldRow fs := rfl
    rw [e1, e2, e3, e4]
    simp only [List.set_cons_succ, List.getElem_cons_succ]
    rw [ih]; rfl
theorem BlkF.set3 {w : World} {g : Nat} {l : List Fld} (h : BlkF w g l) (i : Nat) (hi : i < l.length) (s v : ByteArray) (b : Bool) : BlkF (((w.setCell ⟨g, i * 5 + 2, none⟩ (.string s)).setCell ⟨g, i * 5 + 3, none⟩ (.string v)).setCell ⟨g, i * 5 + 4, none⟩ (.bool b)) g (l.set i ⟨l[i].n, l[i].c, s, v, b⟩) := by
  unfold BlkF
  rw [← fldRow_set3 l i hi]
  exact BlkF.set1 (BlkF.set1 (BlkF.set1 h _ _) _ _) _ _
theorem made_fld (n : Nat) : madeCells #[.string ByteArray.empty, .string ByteArray.empty, .string ByteArray.empty, .string ByteArray.empty, .bool false] (n * 5) = (fldRow (List.replicate n fldE5)).toArray := by
  unfold madeCells
  apply Array.ext
  · simp [fldRow_len]
  · intro i h0 h2
    have h1 : i < n * 5 := by simpa using h0
    have hr := fldRow_at (List.replicate n fldE5) (i / 5) (by rw [List.length_replicate]; omega)
    simp only [List.getElem_replicate] at hr
    have hm : i % 5 < 5 := Nat.mod_lt _ (by omega)
    have hd : i = i / 5 * 5 + i % 5 := by omega
    have hl : i < (fldRow (List.replicate n fldE5)).length := by simpa using h2
    have hg : ∀ v, (fldRow (List.replicate n fldE5))[i]? = some v → (fldRow (List.replicate n fldE5)).toArray[i] = v := fun v hv => by
      rw [List.getElem?_eq_getElem hl] at hv
      have := Option.some.inj hv
      simpa using this
    simp only [Array.getElem_map, Array.getElem_range]
    match hq : i % 5, hm with
    | 0, _ => rw [hq] at hd; rw [hg _ (by rw [hd]; exact hr.1)]; simp [fldE5]
    | 1, _ => rw [hq] at hd; rw [hg _ (by rw [hd]; exact hr.2.1)]; simp [fldE5]
    | 2, _ => rw [hq] at hd; rw [hg _ (by rw [hd]; exact hr.2.2.1)]; simp [fldE5]
    | 3, _ => rw [hq] at hd; rw [hg _ (by rw [hd]; exact hr.2.2.2.1)]; simp [fldE5]
    | 4, _ => rw [hq] at hd; rw [hg _ (by rw [hd]; exact hr.2.2.2.2)]; simp [fldE5]
theorem run_make_fld (n : Nat) (hn : n ≤ 1048576) (w : World) :
    (Instr.makeSlice 27 (.int .i64 (n : Int)) (.int .i64 (n : Int))).run Tryz.prog w = .ok (.slice (some ⟨w.heap.size, 0, none⟩) n n) (w.alloc (.cells (fldRow (List.replicate n fldE5)).toArray 103)) := by
  obtain ⟨i0, hi, hz0, hz1, hz2⟩ := info_parts infoFld
  have := run_make (P := Tryz.prog) w 27 103 i0 _ Tryz.underlying27 hi hz0 .i64 .i64 (n : Int) (n : Int) (by omega) (by omega) (by rw [hz2]; omega) (by omega)
  rw [this, hz1]
  simp only [Int.toNat_natCast]
  rw [← made_fld]; rfl
theorem alloc_fld (w : World) (l : List Fld) : BlkF (w.alloc (.cells (fldRow l).toArray 103)) w.heap.size l := (MapKept.heap_alloc w _).1
end Go.Proofs.YtepmoihgemhjcaaGreatDoor
/-
  Blocks of rows: their cells, a row stored, a new one of rows that say nothing; rows with blocks of fields of their own.
-/
namespace Go.Proofs.YtepmoihgemhjcaaGreatDoor
open Go.RowKit Go.Lib
set_option linter.unusedVariables false
set_option maxRecDepth 20000

/-- A row as its three cells. -/
structure Rc where
  k : ByteArray
  a : Int
  v : Value
def rcCells (x : Rc) : List Value := [.string x.k, .int .i64 x.a, x.v]
def rcRow (l : List Rc) : List Value := l.flatMap rcCells
def rcE : Rc := ⟨⟨#[]⟩, 0, .slice none 0 0⟩
theorem rcRow_len (l : List Rc) : (rcRow l).length = l.length * 3 := by
  induction l with
  | nil => rfl
  | cons f l ih => unfold rcRow at *; rw [List.flatMap_cons, List.length_append, ih]; simp [rcCells]; omega
theorem rcRow_append (l m : List Rc) : rcRow (l ++ m) = rcRow l ++ rcRow m := by simp [rcRow]
theorem rcRow_at (l : List Rc) : ∀ (i : Nat) (h : i < l.length), (rcRow l)[i * 3]? = some (.string l[i].k) ∧ (rcRow l)[i * 3 + 1]? = some (.int .i64 l[i].a) ∧ (rcRow l)[i * 3 + 2]? = some l[i].v := by
  induction l with
  | nil => intro i h; simp at h
  | cons f l ih =>
    intro i h
    match i with
    | 0 => exact ⟨rfl, rfl, rfl⟩
    | i + 1 =>
      have := ih i (by simpa using h)
      rw [show (i + 1) * 3 = i * 3 + 3 by omega]
      exact this
theorem rcRow_set : ∀ (l : List Rc) (i : Nat) (x : Rc), (((rcRow l).set (i * 3) (.string x.k)).set (i * 3 + 1) (.int .i64 x.a)).set (i * 3 + 2) x.v = rcRow (l.set i x)
  | [], i, x => by simp [rcRow]
  | f :: l, 0, x => rfl
  | f :: l, i + 1, x => by
    have ih := rcRow_set l i x
    have e : rcRow (f :: l) = .string f.k :: .int .i64 f.a :: f.v :: rcRow l := rfl
    have e2 : rcRow ((f :: l).set (i + 1) x) = .string f.k :: .int .i64 f.a :: f.v :: rcRow (l.set i x) := rfl
    rw [e, e2, ← ih, show (i + 1) * 3 = i * 3 + 3 by omega]
    rfl
def BlkR (w : World) (g : Nat) (l : List Rc) : Prop := Bxs w g 29 (rcRow l).toArray
theorem BlkR.cells {w : World} {g : Nat} {l : List Rc} (h : BlkR w g l) (i : Nat) (hi : i < l.length) : (w.cell? ⟨g, i * 3, none⟩ = some (.string l[i].k) ∧ w.cell? ⟨g, i * 3 + 1, none⟩ = some (.int .i64 l[i].a) ∧ w.cell? ⟨g, i * 3 + 2, none⟩ = some l[i].v) ∧ w.frozen? ⟨g, i * 3, none⟩ = false ∧ w.frozen? ⟨g, i * 3 + 1, none⟩ = false ∧ w.frozen? ⟨g, i * 3 + 2, none⟩ = false := by
  have hr := rcRow_at l i hi
  have hc : ∀ j, w.cell? ⟨g, j, none⟩ = (rcRow l)[j]? := fun j => by rw [Bxs.cell h j]; simp
  rw [← hc, ← hc, ← hc] at hr
  exact ⟨hr, Bxs.fr h _, Bxs.fr h _, Bxs.fr h _⟩
def set3 (w : World) (g o : Nat) (x : Rc) : World := ((w.setCell ⟨g, o, none⟩ (.string x.k)).setCell ⟨g, o + 1, none⟩ (.int .i64 x.a)).setCell ⟨g, o + 2, none⟩ x.v
theorem bxs_set1 {w : World} {g : Nat} {T : TypeId} {l : List Value} (h : Bxs w g T l.toArray) (j : Nat) (v : Value) : Bxs (w.setCell ⟨g, j, none⟩ v) g T (l.set j v).toArray := by
  have h1 := h.set j v
  rwa [List.setIfInBounds_toArray] at h1
theorem BlkR.set3 {w : World} {g : Nat} {l : List Rc} (h : BlkR w g l) (i : Nat) (x : Rc) : BlkR (set3 w g (i * 3) x) g (l.set i x) := by
  unfold BlkR
  rw [← rcRow_set]
  exact bxs_set1 (bxs_set1 (bxs_set1 h _ _) _ _) _ _
theorem set3_other {w : World} {g b o : Nat} {T : TypeId} {cs : Array Value} (h : Bxs w g T cs) (hne : b ≠ g) (x : Rc) : Bxs (set3 w b o x) g T cs := ((h.other b _ hne _).other b _ hne _).other b _ hne _
theorem set3_below {B : Nat} {a w : World} (h : Below B a w) {g : Nat} (hg : B ≤ g) (o : Nat) (x : Rc) : Below B a (set3 w g o x) := ((h.setCell hg _).setCell hg _).setCell hg _
theorem infoRow : (Tryz.prog.info? 29).map (fun i => (i.zero, i.size, i.bytes)) = some (some (.agg #[.string ByteArray.empty, .int .i64 0, .slice none 0 0]), 3, 48) := by kernel_rfl
theorem made_rc (n : Nat) : madeCells #[.string ByteArray.empty, .int .i64 0, .slice none 0 0] (n * 3) = (rcRow (List.replicate n rcE)).toArray := by
  unfold madeCells
  apply Array.ext
  · simp [rcRow_len]
  · intro i h0 h2
    have h1 : i < n * 3 := by simpa using h0
    have hr := rcRow_at (List.replicate n rcE) (i / 3) (by rw [List.length_replicate]; omega)
    simp only [List.getElem_replicate] at hr
    have hm : i % 3 < 3 := Nat.mod_lt _ (by omega)
    have hd : i = i / 3 * 3 + i % 3 := by omega
    have hl : i < (rcRow (List.replicate n rcE)).length := by simpa using h2
    have hg : ∀ v, (rcRow (List.replicate n rcE))[i]? = some v → (rcRow (List.replicate n rcE)).toArray[i] = v := fun v hv => by
      rw [List.getElem?_eq_getElem hl] at hv
      have := Option.some.inj hv
      simpa using this
    simp only [Array.getElem_map, Array.getElem_range]
    match hq : i % 3, hm with
    | 0, _ => rw [hq] at hd; rw [hg _ (by rw [hd]; exact hr.1)]; simp [rcE]; rfl
    | 1, _ => rw [hq] at hd; rw [hg _ (by rw [hd]; exact hr.2.1)]; simp [rcE]
    | 2, _ => rw [hq] at hd; rw [hg _ (by rw [hd]; exact hr.2.2)]; simp [rcE]
theorem run_make_rc (n : Nat) (hn : n ≤ 1048576) (w : World) :
    (Instr.makeSlice 23 (.int .i64 (n : Int)) (.int .i64 (n : Int))).run Tryz.prog w = .ok (.slice (some ⟨w.heap.size, 0, none⟩) n n) (w.alloc (.cells (rcRow (List.replicate n rcE)).toArray 29)) := by
  obtain ⟨i0, hi, hz0, hz1, hz2⟩ := info_parts infoRow
  have := run_make (P := Tryz.prog) w 23 29 i0 _ Tryz.underlying23 hi hz0 .i64 .i64 (n : Int) (n : Int) (by omega) (by omega) (by rw [hz2]; omega) (by omega)
  rw [this, hz1]
  simp only [Int.toNat_natCast]
  rw [← made_rc]; rfl
theorem alloc_rc (w : World) (l : List Rc) : BlkR (w.alloc (.cells (rcRow l).toArray 29)) w.heap.size l := (MapKept.heap_alloc w _).1
/-! ### Rows with blocks of fields of their own -/
def rcOf (x : Rw × Nat) : Rc := ⟨x.1.k, x.1.a, .slice (some ⟨x.2, 0, none⟩) x.1.fs.length x.1.fs.length⟩
/-- The block g holds rows, the fields of each lie in a block of their own behind it. -/
structure RwsB (w : World) (g : Nat) (xs : List (Rw × Nat)) : Prop where
  blk : BlkR w g (xs.map rcOf)
  fld : ∀ x ∈ xs, BlkF w x.2 x.1.fs
  up : ∀ x ∈ xs, g < x.2
  apart : xs.Pairwise (fun x y => x.2 < y.2)
theorem RwsB.below {w w' : World} {g : Nat} {xs : List (Rw × Nat)} (h : RwsB w g xs) (hb : Below w.heap.size w w') : RwsB w' g xs := ⟨Bxs.below h.blk hb, fun x hx => (h.fld x hx).below hb, h.up, h.apart⟩
theorem RwsB.lt {w : World} {g : Nat} {xs : List (Rw × Nat)} (h : RwsB w g xs) : g < w.heap.size := Bxs.lt h.blk
theorem RwsB.at {w : World} {g : Nat} {xs : List (Rw × Nat)} (h : RwsB w g xs) : RwAt w (some ⟨g, 0, none⟩) (xs.map (·.1)) := by
  intro i hi
  have hi2 : i < xs.length := by simpa using hi
  obtain ⟨⟨c0, c1, c2⟩, -⟩ := h.blk.cells i (by simpa using hi2)
  rw [List.getElem_map] at c0 c1 c2
  have e : (xs.map (·.1))[i] = xs[i].1 := by simp
  refine ⟨g, 0, some ⟨xs[i].2, 0, none⟩, xs[i].1.fs.length, rfl, h.lt, ?_, ?_, ?_, ?_, ?_⟩
  · rw [Nat.zero_add, e]; exact c0
  · rw [Nat.zero_add, e]; exact c1
  · rw [Nat.zero_add, e]; exact c2
  · rw [e]; exact Nat.le_refl _
  · rw [e]; exact (h.fld _ (List.getElem_mem hi2)).at
end Go.Proofs.YtepmoihgemhjcaaGreatDoor
