/-
  Parts of one proof, laid as one text: RowOps, LgO; what each says stands at its head.
-/
import Derived.Test.YtepmoihgemhjcaaGreatDoorRows
import Derived.Test.YtepmoihgemhjcaaGreatDoorBytesDigMath
import Derived.Test.YtepmoihgemhjcaaGreatDoorTreeMathSlABxKSlBOwnS
import Derived.Handy
import Derived.OwnWalk
import Derived.ArgAppend
import Derived.Laws.CopyRow
import Derived.Deep.AppendLies
import Derived.Lib.AppendZerosOnto
import Derived.Lib.Overlaps
import Derived.Test.YtepmoihgemhjcaaGreatDoorTimeBPutMathPutNumJoinedPutTextFldMath
import Derived.Test.YtepmoihgemhjcaaGreatDoorGetValGetTxtNumMathFldRdNumFromTmbMathFldRiseLgMath
import Derived.Test.YtepmoihgemhjcaaGreatDoorLgAtKLgAnsLgRtShwKOneKFldBlkRwBlk
/-
  Rows of elements of any size: appended to, copied over, cleared, as the built-in functions do it. Of no program.
-/
namespace Go.Proofs.YtepmoihgemhjcaaGreatDoor
open Go.RowKit Go.Lib
set_option linter.unusedVariables false

/-- A type of slices (t) of elements (e): zero value, cells and bytes of an element. -/
structure ElT (P : Program) (t e : TypeId) (i : TypeInfo) (z : Value) (size bytes : Nat) : Prop where
  ht : P.underlying t = some (.slice e)
  hi : P.info? e = some i
  hz : i.zero = some z
  hs : i.size = size
  hb : i.bytes = bytes
  hzs : z.cells.size = size
  h0 : 0 < size
  one : ∀ v ∈ z.cells.toList, v.oneCell' = true
theorem elT_of {P : Program} {t e : TypeId} {z : Value} {size bytes : Nat} (ht : P.underlying t = some (.slice e)) (h : (P.info? e).map (fun i => (i.zero, i.size, i.bytes)) = some (some z, size, bytes)) (hzs : z.cells.size = size) (h0 : 0 < size) (one : ∀ v ∈ z.cells.toList, v.oneCell' = true) : ∃ i, ElT P t e i z size bytes := by
  obtain ⟨i, hi, a, b, c⟩ := info_parts h
  exact ⟨i, ht, hi, a, b, c, hzs, h0, one⟩
/-- The cells from p on hold these values (of none nothing is asked). -/
def CelAt (w : World) (p : Option Addr) (cs : List Value) : Prop := ∀ j (h : j < cs.length), ∃ b off, p = some ⟨b, off, none⟩ ∧ b < w.heap.size ∧ w.cell? ⟨b, off + j, none⟩ = some cs[j]
theorem CelAt.below {w w' : World} {p : Option Addr} {cs : List Value} (h : CelAt w p cs) (hb : Below w.heap.size w w') : CelAt w' p cs := by
  intro i hi
  obtain ⟨b, off, rfl, h1, h2⟩ := h i hi
  exact ⟨b, off, rfl, Nat.lt_of_lt_of_le h1 hb.size, (hb.cell (p := ⟨b, off + i, none⟩) h1).trans h2⟩
theorem CelAt.nil (w : World) (p : Option Addr) : CelAt w p [] := fun i h => by simp at h
theorem CelAt.some_of {w : World} {p : Option Addr} {cs : List Value} (h : CelAt w p cs) (h0 : 0 < cs.length) : ∃ b off, p = some ⟨b, off, none⟩ := by
  obtain ⟨b, off, e, -⟩ := h 0 h0
  exact ⟨b, off, e⟩
theorem CelAt.src {w : World} {b off : Nat} {cs : List Value} (h : CelAt w (some ⟨b, off, none⟩) cs) : ∀ j u, cs[j]? = some u → w.cell? ((⟨b, off, none⟩ : Addr).add j) = some u := by
  intro j u hu
  obtain ⟨hj, rfl⟩ := List.getElem?_eq_some_iff.1 hu
  obtain ⟨b', off', e, _, h2⟩ := h j hj
  cases e
  rw [show (⟨b, off, none⟩ : Addr).add j = ⟨b, off + j, none⟩ by unfold Addr.add; split <;> simp_all]
  exact h2
theorem CelAt.take {w : World} {p : Option Addr} {cs : List Value} (h : CelAt w p cs) (k : Nat) : CelAt w p (cs.take k) := fun j hj => by
  obtain ⟨b, off, e, h1, h2⟩ := h j (by simp at hj; omega)
  exact ⟨b, off, e, h1, by rw [h2, List.getElem_take]⟩
theorem CelAt.drop {w : World} {b off : Nat} {cs : List Value} (h : CelAt w (some ⟨b, off, none⟩) cs) (k : Nat) : CelAt w (some ⟨b, off + k, none⟩) (cs.drop k) := fun j hj => by
  obtain ⟨b', off', e, h1, h2⟩ := h (k + j) (by simp at hj; omega)
  cases e
  exact ⟨b, off + k, rfl, h1, by rw [Nat.add_assoc, h2, List.getElem_drop]⟩
theorem own_cel {w : World} {base : Nat} {e : TypeId} {size n : Nat} {p : Option Addr} {cap : Nat} {xs : List Value} (h : w.ownsRow base e size (.slice p n cap) n xs) : CelAt w p xs := by
  rcases h.2 with ⟨e0, h0⟩ | ⟨g, cap', cur, e0, _, hg, _, _, hs, ht⟩
  · cases e0
    have hl := h.1
    intro j hj
    rw [hl, Nat.zero_mul] at hj
    omega
  · cases e0
    have hl := h.1
    intro j hj
    refine ⟨g, 0, rfl, lt_of_block hg, ?_⟩
    rw [Nat.zero_add, h.cellAt j (by omega), List.getElem?_eq_getElem hj]
/-- Where the own row of an answer lies: where it lay, or in new memory. -/
def Lies (w : World) (v v' : Value) : Prop := ∀ j, v'.ownBlock = some j → v.ownBlock = some j ∨ w.heap.size ≤ j
theorem app_cel {P : Program} {t e : TypeId} {i : TypeInfo} {z : Value} {size bytes : Nat} (E : ElT P t e i z size bytes) (ty : TypeId) (w : World) (base : Nat) (v : Value) (n : Nat) (xs : List Value) (own : w.ownsRow base e size v n xs) (p : Option Addr) (m c : Nat) (news : List Value) (hp : CelAt w p news) (hl : news.length = m * size) (one : ∀ u ∈ news, u.oneCell' = true) (hb : (n + m) * bytes ≤ 140737488355328) (hm : n + m ≤ maxLen) (hbase : base ≤ w.heap.size) :
    ∃ v' w', (Builtin.append_ #[t, t] ty #[v, .slice p m c]).run P w = .ok v' w' ∧ w'.ownsRow base e size v' (n + m) (xs ++ news) ∧ w.grownBy w' v.ownBlock ∧ Lies w v v' := by
  by_cases h0 : m = 0
  · subst h0
    have hn : news = [] := List.eq_nil_of_length_eq_zero (by simpa using hl)
    subst hn
    refine ⟨v, w, ?_, by simpa using own, World.grownBy.refl _ _, fun j hj => .inl hj⟩
    rcases own.2 with ⟨rfl, rfl⟩ | ⟨g, cap', cur, rfl, _, _, hnc, _⟩
    · cases p <;> simp [Builtin.append_, run_underlying E.ht, sizeOf, typeInfo, E.hi, Builtin.lenOf, Builtin.firstCells, loadCells, loadCellsFrom]
    · cases p <;> simp [Builtin.append_, run_underlying E.ht, sizeOf, typeInfo, E.hi, Builtin.lenOf, Builtin.firstCells, hnc, storeCells, loadCells, loadCellsFrom]
  · have hpos : 0 < news.length := by rw [hl]; exact Nat.mul_pos (by omega) E.h0
    obtain ⟨b, off, rfl⟩ := hp.some_of hpos
    obtain ⟨g, cap', w', h1, h2, h3, h4, _⟩ := run_append_lies (P := P) w t ty base e i z size bytes E.ht E.hi E.hz E.hs E.hb E.hzs E.h0 v n xs own ⟨b, off, none⟩ m c news hl hp.src one (by omega) hm hb hbase _ rfl
    refine ⟨_, w', h1, h2, h3, fun j hj => ?_⟩
    have hj : some g = some j := hj
    cases hj
    rcases h4 with h | h
    · exact .inl h
    · exact .inr (by omega)
theorem Bxs.row {w : World} {g : Nat} {T : TypeId} {cs : Array Value} (h : Bxs w g T cs) (cs' : Array Value) : Bxs (w.setRow g cs') g T cs' := setRow_heap w g cs cs' T (0, 0) h
theorem row_other (w : World) (g k : Nat) (cs : Array Value) (hne : k ≠ g) : (w.setRow g cs).heap[k]? = w.heap[k]? := by
  have : g ≠ k := fun e => hne e.symm
  simp [World.setRow, Array.getElem?_modify, this]
theorem row_size (w : World) (g : Nat) (cs : Array Value) : (w.setRow g cs).heap.size = w.heap.size := by simp [World.setRow]
theorem grown_row (w : World) (g : Nat) (cs : Array Value) : w.grownBy (w.setRow g cs) (some g) := ⟨rfl, rfl, rfl, by rw [row_size]; exact Nat.le_refl _, fun k _ hne => row_other w g k cs (fun e => hne (by rw [e]))⟩
theorem Bxs.rowOther {w : World} {g : Nat} {T : TypeId} {cs : Array Value} (h : Bxs w g T cs) (g' : Nat) (cs' : Array Value) (hne : g ≠ g') : Bxs (w.setRow g' cs') g T cs := (row_other w g' g cs' hne).trans h
theorem run_copy_bx {P : Program} {t e : TypeId} {i : TypeInfo} {z : Value} {size bytes : Nat} (E : ElT P t e i z size bytes) (ty : TypeId) (w : World) (g o dLen dCap : Nat) (a : Addr) (sLen sCap k : Nat) (cur : Array Value) (cs : List Value)
    (hg : Bxs w g e cur) (hk : k = Nat.min sLen dLen) (hn : cs.length = k * size)
    (hsrc : ∀ j v, cs[j]? = some v → w.cell? (a.add j) = some v) (hfit : o + cs.length ≤ cur.size) (h1 : ∀ v ∈ cs, v.oneCell' = true) :
    (Builtin.copy_ #[t, t] ty #[.slice (some ⟨g, o, none⟩) dLen dCap, .slice (some a) sLen sCap]).run P w =
      .ok (goInt k) (w.setRow g (cur.toList.take o ++ cs ++ cur.toList.drop (o + cs.length)).toArray) := by
  have hl := run_firstCells_some (P := P) w size k a sLen sCap cs hn hsrc
  have hst := run_storeCells_at P g o e cs 0 cur w hg (by simpa using hfit) h1
  subst hk
  simp [Builtin.copy_, run_underlying E.ht, Builtin.lenOf, sizeOf, typeInfo, E.hi, E.hs, hl, hst]
theorem run_append_bx {P : Program} {t e : TypeId} {i : TypeInfo} {z : Value} {size bytes : Nat} (E : ElT P t e i z size bytes) (ty : TypeId) (w : World) (g sLen sCap : Nat) (a : Addr) (m c : Nat) (cur : Array Value) (news : List Value)
    (hg : Bxs w g e cur) (hl : news.length = m * size) (hsrc : ∀ j v, news[j]? = some v → w.cell? (a.add j) = some v) (hroom : sLen + m ≤ sCap) (hfit : sLen * size + news.length ≤ cur.size) (h1 : ∀ v ∈ news, v.oneCell' = true) :
    (Builtin.append_ #[t, t] ty #[.slice (some ⟨g, 0, none⟩) sLen sCap, .slice (some a) m c]).run P w =
      .ok (.slice (some ⟨g, 0, none⟩) (sLen + m) sCap) (w.setRow g (cur.toList.take (sLen * size) ++ news ++ cur.toList.drop (sLen * size + news.length)).toArray) := by
  have hfc := run_firstCells_some (P := P) w size m a m c news hl hsrc
  have hst := run_storeCells_at P g (sLen * size) e news 0 cur w hg (by simpa using hfit) h1
  simp only [Nat.add_zero] at hst
  simp [Builtin.append_, run_underlying E.ht, sizeOf, typeInfo, E.hi, E.hs, Builtin.lenOf, hroom, hfc, Addr.add_lit, hst]
theorem run_clear_bx {P : Program} {t e : TypeId} {i : TypeInfo} {z : Value} {size bytes : Nat} (E : ElT P t e i z size bytes) (ty : TypeId) (w : World) (g o c : Nat) (cur : Array Value)
    (hg : Bxs w g e cur) (hfit : o + size ≤ cur.size) :
    (Builtin.clear_ #[t] ty #[.slice (some ⟨g, o, none⟩) 1 c]).run P w =
      .ok (.tuple #[]) (w.setRow g (cur.toList.take o ++ z.cells.toList ++ cur.toList.drop (o + size)).toArray) := by
  have hzc : (Builtin.zeroCells z.cells 1).toList = z.cells.toList := by
    apply List.ext_getElem
    · simp [Builtin.zeroCells]
    · intro j h1 h2
      have : j < z.cells.size := by simpa using h2
      simp [Builtin.zeroCells, Nat.mod_eq_of_lt this, getElem!_pos z.cells j this]
  have hlen : z.cells.toList.length = size := by simpa using E.hzs
  have hst := run_storeCells_at P g o e z.cells.toList 0 cur w hg (by rw [hlen]; simpa using hfit) E.one
  rw [hlen] at hst
  simp only [Nat.add_zero] at hst
  simp [Builtin.clear_, run_underlying E.ht, zeroValue, typeInfo, E.hi, E.hz, hzc, hst]
theorem own_bxs {w : World} {base : Nat} {e : TypeId} {size g n cap : Nat} {xs : List Value} (h : w.ownsRow base e size (.slice (some ⟨g, 0, none⟩) n cap) n xs) : ∃ cur, Bxs w g e cur ∧ base ≤ g ∧ n ≤ cap ∧ cap ≤ maxLen ∧ cur.size = cap * size ∧ cur.toList.take (n * size) = xs := by
  rcases h.2 with ⟨e0, _⟩ | ⟨g', cap', cur, e0, h1, h2, h3, h4, h5, h6⟩
  · cases e0
  · cases e0
    exact ⟨cur, h2, h1, h3, h4, h5, h6⟩
theorem bxs_ownE {w : World} {base : Nat} {e : TypeId} {size g n cap : Nat} {xs : List Value} {cur : Array Value} (hg : Bxs w g e cur) (hb : base ≤ g) (hn : n ≤ cap) (hm : cap ≤ maxLen) (hs : cur.size = cap * size) (ht : cur.toList.take (n * size) = xs) : w.ownsRow base e size (.slice (some ⟨g, 0, none⟩) n cap) n xs := by
  refine ⟨?_, .inr ⟨g, cap, cur, rfl, hb, hg, hn, hm, hs, ht⟩⟩
  rw [← ht, List.length_take, Array.length_toList, hs]
  exact Nat.min_eq_left (Nat.mul_le_mul_right _ hn)
theorem copy_wp {P : Program} {w : World} {o : Oper} {a : Act} {K : Act → World → Prop} {Q : Exit → Act → World → Prop} (d x : Operand) (t t' : TypeId)
    (ho : o.op = .call { callee := .builtin .copy, args := #[d, x], argTypes := #[t, t'] }) (v u : Value) (hd : a.eval d = v) (hx : a.eval x = u) (v' : Value) (w' : World)
    (hr : (Builtin.copy_ #[t, t'] o.type #[v, u]).run P w = .ok v' w') (h : K (a.put o.dst v') w') : o.wp P a w K Q := by
  unfold Oper.wp execOp
  simp only [ho, resolve, invoke, builtin, Sem.run_bind, Sem.run_pure, Result.andThen_ok, List.map_toArray, List.map_cons, List.map_nil, hd, hx, hr]
  exact h
theorem step_copy_bx {P : Program} {w : World} {ops : Array Oper} {o : Oper} {a : Act} {K : Act → World → Prop} {Q : Exit → Act → World → Prop} {E : Prop} (hgd : o.guard = none) (d x : Operand) (t t' : TypeId)
    (ho : o.op = .call { callee := .builtin .copy, args := #[d, x], argTypes := #[t, t'] }) (v u v' : Value) (w' : World) (hd : a.eval d = v) (hx : a.eval x = u)
    (hr : (Builtin.copy_ #[t, t'] o.type #[v, u]).run P w = .ok v' w') (h : K (a.put o.dst v') w') : if Region.wanted o (yielded ops a.tmps) = true then Oper.wp P o a w K Q else E := by
  rw [if_pos (by simp [Region.wanted, hgd])]
  exact copy_wp d x t t' ho v u hd hx v' w' hr h
theorem wpList_app {P : Program} {w : World} {ops : Array Oper} {rest : List Oper} {o : Oper} {a : Act} {Q : Exit → Act → World → Prop} (hgd : o.guard = none) (s x : Operand) (t t' : TypeId)
    (ho : o.op = .call { callee := .builtin .append, args := #[s, x], argTypes := #[t, t'] }) (v1 v2 v' : Value) (w' : World) (hs : a.eval s = v1) (hx : a.eval x = v2)
    (hr : (Builtin.append_ #[t, t'] o.type #[v1, v2]).run P w = .ok v' w') (h : wpList P ops Q rest (a.put o.dst v') w') : wpList P ops Q (o :: rest) a w :=
  wpList_plain hgd fun _ hK => by
    unfold Oper.wp execOp
    simp only [ho, resolve, invoke, builtin, Sem.run_bind, Sem.run_pure, Result.andThen_ok, List.map_toArray, List.map_cons, List.map_nil, hs, hx, hr]
    exact hK _ _ h
theorem wpList_copy_bx {P : Program} {w : World} {ops : Array Oper} {rest : List Oper} {o : Oper} {a : Act} {Q : Exit → Act → World → Prop} (hgd : o.guard = none) (d x : Operand) (t t' : TypeId)
    (ho : o.op = .call { callee := .builtin .copy, args := #[d, x], argTypes := #[t, t'] }) (v u v' : Value) (w' : World) (hd : a.eval d = v) (hx : a.eval x = u)
    (hr : (Builtin.copy_ #[t, t'] o.type #[v, u]).run P w = .ok v' w') (h : wpList P ops Q rest (a.put o.dst v') w') : wpList P ops Q (o :: rest) a w :=
  wpList_plain hgd fun _ hK => copy_wp d x t t' ho v u hd hx v' w' hr (hK _ _ h)
end Go.Proofs.YtepmoihgemhjcaaGreatDoor
/-
  A log of its own memory: its rows in a row of their own, the fields of each in one of their own, its leaves in one of their own.
-/
namespace Go.Proofs.YtepmoihgemhjcaaGreatDoor
open Go.RowKit Go.Lib
set_option linter.unusedVariables false
set_option maxRecDepth 20000

theorem elRow : ∃ i, ElT Tryz.prog 23 29 i (.agg #[.string ByteArray.empty, .int .i64 0, .slice none 0 0]) 3 48 :=
  elT_of Tryz.underlying23 infoRow (by kernel_rfl) (by omega) (by intro v hv; simp [Value.cells] at hv; rcases hv with rfl | rfl | rfl <;> rfl)
/-- Two own rows of elements of two types lie in two blocks. -/
theorem own_apart {w : World} {b b' : Nat} {e e' : TypeId} {s s' n n' : Nat} {v v' : Value} {xs xs' : List Value} (h : w.ownsRow b e s v n xs) (k : w.ownsRow b' e' s' v' n' xs') (hne : e ≠ e') : v.ownBlock = none ∨ v.ownBlock ≠ v'.ownBlock := by
  rcases h.2 with ⟨rfl, _⟩ | ⟨g, cap, cur, rfl, _, hg, _⟩
  · exact .inl rfl
  · rcases k.2 with ⟨rfl, _⟩ | ⟨g', cap', cur', rfl, _, hg', _⟩
    · exact .inr (by simp [Value.ownBlock])
    · refine .inr (fun e => ?_)
      have : g = g' := by simpa [Value.ownBlock] using e
      subst this
      rw [hg] at hg'
      injection hg' with h1
      injection h1 with h2 h3
      exact hne h3
theorem own_box {w : World} {base g : Nat} {e T : TypeId} {s : Nat} {v : Value} {n : Nat} {xs : List Value} {cs : Array Value} (h : w.ownsRow base e s v n xs) (hb : Bxs w g T cs) (hne : T ≠ e) : v.ownBlock ≠ some g := by
  intro he
  rcases h.2 with ⟨rfl, _⟩ | ⟨g', cap, cur, rfl, _, hg', _⟩
  · cases he
  · have : g' = g := by simpa [Value.ownBlock] using he
    subst this
    unfold Bxs at hb
    rw [hb] at hg'
    injection hg' with h1
    injection h1 with h2 h3
    exact hne h3
theorem own_low {w : World} {base base' : Nat} {e : TypeId} {s n : Nat} {v : Value} {xs : List Value} (h : w.ownsRow base e s v n xs) (hb : base' ≤ base) : w.ownsRow base' e s v n xs := ownS_mono h hb
/-- A row as its three cells, its fields in a slice. -/
def rcV (x : Rw × Value) : Rc := ⟨x.1.k, x.1.a, x.2⟩
theorem rcV_len (xs : List (Rw × Value)) : (rcRow (xs.map rcV)).length = xs.length * 3 := by rw [rcRow_len, List.length_map]
theorem one_rc (xs : List (Rw × Value)) (h : ∀ x ∈ xs, x.2.oneCell' = true) : ∀ u ∈ rcRow (xs.map rcV), u.oneCell' = true := fun u hu => by
  unfold rcRow at hu
  obtain ⟨r, hr, h1⟩ := List.mem_flatMap.1 hu
  obtain ⟨x, hx, rfl⟩ := List.mem_map.1 hr
  simp [rcCells, rcV] at h1
  rcases h1 with rfl | rfl | rfl
  · rfl
  · rfl
  · exact h x hx
/-- Rows of their own memory. -/
structure RwsO (base : Nat) (xs : List (Rw × Value)) (v : Value) (w : World) : Prop where
  own : w.ownsRow base 29 3 v xs.length (rcRow (xs.map rcV))
  fld : ∀ x ∈ xs, w.ownsRow base 103 5 x.2 x.1.fs.length (fldRow x.1.fs)
  ne : xs.Pairwise (fun x y => x.2.ownBlock = none ∨ x.2.ownBlock ≠ y.2.ownBlock)
section
variable {base base' : Nat} {xs : List (Rw × Value)} {v v1 v2 : Value} {w w' : World} {lv : List ByteArray}
theorem RwsO.nil (base : Nat) (w : World) : RwsO base [] (.slice none 0 0) w := ⟨World.ownsRow_nil _ _ _ _, (fun x hx => by cases hx), List.Pairwise.nil⟩
theorem RwsO.below (h : RwsO base xs v w) (hb : Below w.heap.size w w') : RwsO base xs v w' := ⟨ownS_below h.own hb, fun x hx => ownS_below (h.fld x hx) hb, h.ne⟩
theorem RwsO.lower (h : RwsO base xs v w) (hb : base' ≤ base) : RwsO base' xs v w := ⟨own_low h.own hb, fun x hx => own_low (h.fld x hx) hb, h.ne⟩
/-- .. and none of these blocks is the row that was written. -/
theorem RwsO.kept {row : Option Nat} (h : RwsO base xs v w) (hg : w.grownBy w' row) (h1 : v.ownBlock = none ∨ v.ownBlock ≠ row) (h2 : ∀ x ∈ xs, x.2.ownBlock = none ∨ x.2.ownBlock ≠ row) : RwsO base xs v w' := ⟨h.own.kept hg h1, fun x hx => (h.fld x hx).kept hg (h2 x hx), h.ne⟩
theorem RwsO.lt (h : RwsO base xs v w) : (∀ j, v.ownBlock = some j → base ≤ j ∧ j < w.heap.size) ∧ ∀ x ∈ xs, ∀ j, x.2.ownBlock = some j → base ≤ j ∧ j < w.heap.size := ⟨fun j hj => h.own.lt j hj, fun x hx j hj => (h.fld x hx).lt j hj⟩
/-- A box of another type is written. -/
theorem RwsO.box {T : TypeId} {cs : Array Value} {g : Nat} (h : RwsO base xs v w) (hb : Bxs w g T cs) (n1 : T ≠ 29) (n2 : T ≠ 103) (hg : w.grownBy w' (some g)) : RwsO base xs v w' :=
  h.kept hg (.inr (own_box h.own hb n1)) (fun x hx => .inr (own_box (h.fld x hx) hb n2))
theorem RwsO.form (h : RwsO base xs v w) : ∃ p c, v = .slice p xs.length c ∧ xs.length ≤ c := by
  rcases h.own.2 with ⟨h0, h1⟩ | ⟨g, cap, cur, h1, _, _, h4, _⟩
  · exact ⟨none, 0, by rw [h0, h1], by omega⟩
  · exact ⟨_, _, h1, h4⟩
theorem RwsO.at {p : Option Addr} {c : Nat} (h : RwsO base xs (.slice p xs.length c) w) : RwAt w p (xs.map (·.1)) := by
  intro i hi
  have hi2 : i < xs.length := by simpa using hi
  have hc := own_cel h.own
  have hr := rcRow_at (xs.map rcV) i (by simpa using hi2)
  have hl := rcV_len xs
  obtain ⟨b, off, rfl, hb, h1⟩ := hc (i * 3) (by omega)
  have g : ∀ j (hj : j < (rcRow (xs.map rcV)).length), w.cell? ⟨b, off + j, none⟩ = (rcRow (xs.map rcV))[j]? := fun j hj => by
    obtain ⟨b', off', e, _, h3⟩ := hc j hj
    cases e
    rw [h3, List.getElem?_eq_getElem hj]
  have ev : (xs.map rcV)[i]'(by simpa using hi2) = ⟨xs[i].1.k, xs[i].1.a, xs[i].2⟩ := by simp [rcV]
  rw [ev] at hr
  obtain ⟨q, cc, hq, hcc, hf⟩ := ownF_form (h.fld _ (List.getElem_mem hi2))
  rw [hq] at hr
  have e1 : (xs.map (·.1))[i] = xs[i].1 := by simp
  rw [e1]
  exact ⟨b, off, q, cc, rfl, hb, (g (i * 3) (by omega)).trans hr.1, by rw [Nat.add_assoc]; exact (g (i * 3 + 1) (by omega)).trans hr.2.1, by rw [Nat.add_assoc]; exact (g (i * 3 + 2) (by omega)).trans hr.2.2, hcc, hf⟩
/-- One more row, whose fields lie in memory that came later than all of these. -/
theorem RwsO.app (h : RwsO base xs v w) (x : Rw × Value) (p : Option Addr) (c : Nat) (hx : x.2.oneCell' = true) (hp : CelAt w p (rcRow [rcV x])) (hf : w.ownsRow base 103 5 x.2 x.1.fs.length (fldRow x.1.fs)) (hn : ∀ y ∈ xs, y.2.ownBlock = none ∨ y.2.ownBlock ≠ x.2.ownBlock) (hl : xs.length + 1 ≤ 1048576) (hb : base ≤ w.heap.size) :
    ∃ q d y, (Builtin.append_ #[23, 23] 23 #[v, .slice p 1 c]).run Tryz.prog w = .ok (.slice q (xs.length + 1) d) y ∧ RwsO base (xs ++ [x]) (.slice q (xs.length + 1) d) y ∧ w.grownBy y v.ownBlock ∧ Lies w v (.slice q (xs.length + 1) d) := by
  obtain ⟨i, E⟩ := elRow
  obtain ⟨v', y, h1, h2, h3, h4⟩ := app_cel E 23 w base v xs.length (rcRow (xs.map rcV)) h.own p 1 c (rcRow [rcV x]) hp (by simp [rcRow, rcCells]) (by have := one_rc [x] (fun y hy => by rw [List.mem_singleton.1 hy]; exact hx); simpa using this) (by omega) (by unfold maxLen; omega) hb
  have e0 : rcRow (xs.map rcV) ++ rcRow [rcV x] = rcRow ((xs ++ [x]).map rcV) := by rw [List.map_append, rcRow_append]; rfl
  rw [e0] at h2
  have hform : ∃ q d, v' = .slice q (xs.length + 1) d := by
    rcases h2.2 with ⟨h0, h5⟩ | ⟨g, cap, cur, h5, _⟩
    · omega
    · exact ⟨_, _, h5⟩
  obtain ⟨q, d, rfl⟩ := hform
  have far : ∀ z : Rw × Value, w.ownsRow base 103 5 z.2 z.1.fs.length (fldRow z.1.fs) → y.ownsRow base 103 5 z.2 z.1.fs.length (fldRow z.1.fs) := fun z hz => hz.kept h3 (own_apart hz h.own (by decide))
  refine ⟨q, d, y, h1, ⟨by simpa using h2, fun z hz => ?_, ?_⟩, h3, h4⟩
  · rcases List.mem_append.1 hz with g | g
    · exact far z (h.fld z g)
    · rw [List.mem_singleton.1 g]; exact far x hf
  · rw [List.pairwise_append]
    refine ⟨h.ne, List.pairwise_singleton _ _, fun a ha b hb2 => ?_⟩
    rw [List.mem_singleton.1 hb2]
    exact hn a ha
/-- A log of its own memory. -/
structure LgO (base : Nat) (xs : List (Rw × Value)) (lv : List ByteArray) (v1 v2 : Value) (w : World) : Prop where
  rws : RwsO base xs v1 w
  lvs : w.ownsRow base 9 1 v2 lv.length (strRow lv)
theorem LgO.nil (base : Nat) (w : World) : LgO base [] [] (.slice none 0 0) (.slice none 0 0) w := ⟨RwsO.nil _ _, World.ownsRow_nil _ _ _ _⟩
theorem LgO.below (h : LgO base xs lv v1 v2 w) (hb : Below w.heap.size w w') : LgO base xs lv v1 v2 w' := ⟨h.rws.below hb, ownS_below h.lvs hb⟩
theorem LgO.lower (h : LgO base xs lv v1 v2 w) (hb : base' ≤ base) : LgO base' xs lv v1 v2 w := ⟨h.rws.lower hb, own_low h.lvs hb⟩
theorem LgO.box {T : TypeId} {cs : Array Value} {g : Nat} (h : LgO base xs lv v1 v2 w) (hb : Bxs w g T cs) (n1 : T ≠ 29) (n2 : T ≠ 103) (n3 : T ≠ 9) (hg : w.grownBy w' (some g)) : LgO base xs lv v1 v2 w' := ⟨h.rws.box hb n1 n2 hg, h.lvs.kept hg (.inr (own_box h.lvs hb n3))⟩
theorem LgO.set {g : Nat} (h : LgO base xs lv v1 v2 w) (hg : g < base) (j : Nat) (x : Value) : LgO base xs lv v1 v2 (w.setCell ⟨g, j, none⟩ x) := by
  have k : w.grownBy (w.setCell ⟨g, j, none⟩ x) (some g) := by
    refine ⟨rfl, rfl, rfl, by simp [World.setCell], fun q hq hne => ?_⟩
    have hq' : g ≠ q := fun e => hne (by rw [e])
    simp [World.setCell, Array.getElem?_modify, hq']
  exact ⟨h.rws.kept k (.inr (fun e => by have := (h.rws.lt.1 g e).1; omega)) (fun y hy => .inr (fun e => by have := (h.rws.lt.2 y hy g e).1; omega)), h.lvs.kept k (.inr (fun e => by have := (h.lvs.lt g e).1; omega))⟩
/-- A log in a box at E, made since W. -/
structure LgC (W : World) (E : Nat) (xs : List (Rw × Value)) (lv : List ByteArray) (now : Int) (v1 v2 : Value) (x : World) : Prop where
  box : Bxs x E 26 #[v1, v2, .int .i64 now]
  lg : LgO W.heap.size xs lv v1 v2 x
  eb : W.heap.size ≤ E
  bel : Below W.heap.size W x
variable {W x x' : World} {E : Nat} {now : Int}
theorem LgC.below (h : LgC W E xs lv now v1 v2 x) (hb : Below x.heap.size x x') : LgC W E xs lv now v1 v2 x' := ⟨h.box.below hb, h.lg.below hb, h.eb, chainB h.bel hb⟩
theorem LgC.cells (h : LgC W E xs lv now v1 v2 x) : x.cell? ⟨E, 0, none⟩ = some v1 ∧ x.cell? ⟨E, 1, none⟩ = some v2 ∧ x.cell? ⟨E, 2, none⟩ = some (.int .i64 now) ∧ x.frozen? ⟨E, 0, none⟩ = false ∧ x.frozen? ⟨E, 1, none⟩ = false ∧ x.frozen? ⟨E, 2, none⟩ = false := ⟨h.box.cell 0, h.box.cell 1, h.box.cell 2, h.box.fr 0, h.box.fr 1, h.box.fr 2⟩
theorem set_grw (x : World) (g i : Nat) (v : Value) : x.grownBy (x.setCell ⟨g, i, none⟩ v) (some g) := by
  refine ⟨rfl, rfl, rfl, by simp [World.setCell], fun q hq hne => ?_⟩
  have hq' : g ≠ q := fun e => hne (by rw [e])
  simp [World.setCell, Array.getElem?_modify, hq']
theorem below_cel {B : Nat} {a y : World} (h : Below B a y) {g : Nat} (hg : B ≤ g) (i : Nat) (v : Value) : Below B a (y.setCell ⟨g, i, none⟩ v) := h.setCell (p := ⟨g, i, none⟩) hg v
/-- A log of its own rows and leaves is put into the box. -/
theorem LgC.put {u0 u1 u2 : Value} (k : Bxs x E 26 #[u0, u1, u2]) (hE : W.heap.size ≤ E) (hb : Below W.heap.size W x) (hl : LgO W.heap.size xs lv v1 v2 x) : LgC W E xs lv now v1 v2 (((x.setCell ⟨E, 0, none⟩ v1).setCell ⟨E, 1, none⟩ v2).setCell ⟨E, 2, none⟩ (.int .i64 now)) :=
  ⟨((k.set 0 _).set 1 _).set 2 _, (((hl.box k (by decide) (by decide) (by decide) (set_grw x E 0 v1)).box (k.set 0 v1) (by decide) (by decide) (by decide) (set_grw _ E 1 v2)).box ((k.set 0 v1).set 1 v2) (by decide) (by decide) (by decide) (set_grw _ E 2 _)), hE, below_cel (below_cel (below_cel hb hE 0 _) hE 1 _) hE 2 _⟩
/-- One more row: its fields came later than all that is there. -/
theorem LgC.app {xf : World} (h : LgC W E xs lv now v1 v2 xf) (hx : Below xf.heap.size xf x) (r : Rw) (q : Option Addr) (d : Nat) (hf : x.ownsRow xf.heap.size 103 5 (.slice q r.fs.length d) r.fs.length (fldRow r.fs)) (hl : xs.length + 1 ≤ 1048576) :
    ∃ q2 d2 y, (Builtin.append_ #[23, 23] 23 #[v1, .slice (some ⟨x.heap.size, 0, none⟩) 1 1]).run Tryz.prog (x.alloc (.cells #[.string r.k, .int .i64 r.a, .slice q r.fs.length d] 29)) = .ok (.slice q2 (xs.length + 1) d2) y ∧ LgC W E (xs ++ [(r, .slice q r.fs.length d)]) lv now (.slice q2 (xs.length + 1) d2) v2 (y.setCell ⟨E, 0, none⟩ (.slice q2 (xs.length + 1) d2)) ∧ Below W.heap.size W y ∧ y.cell? ⟨E, 0, none⟩ = some v1 ∧ y.frozen? ⟨E, 0, none⟩ = false ∧ (x.alloc (.cells #[.string r.k, .int .i64 r.a, .slice q r.fs.length d] 29)).grownBy y v1.ownBlock := by
  have hal := (Below.refl x.heap.size x).alloc (Nat.le_refl _) (.cells #[.string r.k, .int .i64 r.a, .slice q r.fs.length d] 29)
  have H := (h.below hx).below hal
  have hc : CelAt (x.alloc (.cells #[.string r.k, .int .i64 r.a, .slice q r.fs.length d] 29)) (some ⟨x.heap.size, 0, none⟩) (rcRow [rcV (r, .slice q r.fs.length d)]) := fun j hj => ⟨x.heap.size, 0, rfl, by simp, by
    rw [Nat.zero_add, (Bxs.new x 29 #[.string r.k, .int .i64 r.a, .slice q r.fs.length d]).cell j]
    have hj3 : j < 3 := by simpa [rcRow, rcCells] using hj
    match j, hj3 with
    | 0, _ => rfl
    | 1, _ => rfl
    | 2, _ => rfl⟩
  have hW := h.bel.size
  have hxz := hx.size
  obtain ⟨q2, d2, y, h1, h2, h3, h4⟩ := H.lg.rws.app (r, .slice q r.fs.length d) (some ⟨x.heap.size, 0, none⟩) 1 rfl hc (own_low (ownS_below hf hal) hW) (fun y hy => by
    cases hy2 : y.2.ownBlock with
    | none => exact .inl rfl
    | some j =>
      refine .inr (fun e => ?_)
      have a := ((h.lg.rws.lt.2 y hy) j hy2).2
      have b := (hf.lt j e.symm).1
      omega) hl H.bel.size
  have hrow : ∀ j, v1.ownBlock = some j → W.heap.size ≤ j := fun j hj => (H.lg.rws.lt.1 j hj).1
  have kb : Bxs y E 26 #[v1, v2, .int .i64 now] := H.box.grown h3 (fun e => own_box H.lg.rws.own H.box (by decide) e.symm)
  have hl2 : y.ownsRow W.heap.size 9 1 v2 lv.length (strRow lv) := H.lg.lvs.kept h3 (own_apart H.lg.lvs H.lg.rws.own (by decide))
  have hby : Below W.heap.size W y := H.bel.grown h3 H.bel.size hrow
  have ho : LgO W.heap.size (xs ++ [(r, .slice q r.fs.length d)]) lv (.slice q2 (xs.length + 1) d2) v2 y := ⟨h2, hl2⟩
  exact ⟨q2, d2, y, h1, ⟨kb.set 0 _, ho.box kb (by decide) (by decide) (by decide) (set_grw y E 0 _), h.eb, below_cel hby h.eb 0 _⟩, hby, kb.cell 0, kb.fr 0, h3⟩
end
end Go.Proofs.YtepmoihgemhjcaaGreatDoor
