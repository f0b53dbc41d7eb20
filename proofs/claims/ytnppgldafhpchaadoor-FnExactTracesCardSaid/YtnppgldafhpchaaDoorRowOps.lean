/-
  Rows of elements of any size: appended to, copied over, cleared, as the built-in functions do it. Of no program.
-/
import Derived.Test.YtnppgldafhpchaaDoorRows
import Derived.Test.YtnppgldafhpchaaDoorBytes
import Derived.Test.YtnppgldafhpchaaDoorSlASlBOwnS
import Derived.Test.YtnppgldafhpchaaDoorBxK
import Derived.Handy
import Derived.OwnWalk
import Derived.ArgAppend
import Derived.Laws.CopyRow
import Derived.Deep.AppendLies
import Derived.Lib.AppendZerosOnto
import Derived.Lib.Overlaps
namespace Go.Proofs.YtnppgldafhpchaaDoor
open Go.RowKit Go.Lib
set_option linter.unusedVariables false

/-- A type of slices (t) of elements (e): zero value, cells and bytes of an element. -/
structure ElT (P : Program) (t e : TypeId) (i : TypeInfo) (z : Value) (size bytes : Nat) : Prop where
  ht : P.underlying t = some (.slice e)
  hi : P.info? e = some i
  hz : i.zero = some z
  hs : i.size = size
  hb : i.bytes = bytes
  hzs : z.cells.size = size
  h0 : 0 < size
  one : ∀ v ∈ z.cells.toList, v.oneCell' = true
theorem elT_of {P : Program} {t e : TypeId} {z : Value} {size bytes : Nat} (ht : P.underlying t = some (.slice e)) (h : (P.info? e).map (fun i => (i.zero, i.size, i.bytes)) = some (some z, size, bytes)) (hzs : z.cells.size = size) (h0 : 0 < size) (one : ∀ v ∈ z.cells.toList, v.oneCell' = true) : ∃ i, ElT P t e i z size bytes := by
  obtain ⟨i, hi, a, b, c⟩ := info_parts h
  exact ⟨i, ht, hi, a, b, c, hzs, h0, one⟩
/-- The cells from p on hold these values (of none nothing is asked). -/
def CelAt (w : World) (p : Option Addr) (cs : List Value) : Prop := ∀ j (h : j < cs.length), ∃ b off, p = some ⟨b, off, none⟩ ∧ b < w.heap.size ∧ w.cell? ⟨b, off + j, none⟩ = some cs[j]
theorem CelAt.below {w w' : World} {p : Option Addr} {cs : List Value} (h : CelAt w p cs) (hb : Below w.heap.size w w') : CelAt w' p cs := by
  intro i hi
  obtain ⟨b, off, rfl, h1, h2⟩ := h i hi
  exact ⟨b, off, rfl, Nat.lt_of_lt_of_le h1 hb.size, (hb.cell (p := ⟨b, off + i, none⟩) h1).trans h2⟩
theorem CelAt.nil (w : World) (p : Option Addr) : CelAt w p [] := fun i h => by simp at h
theorem CelAt.some_of {w : World} {p : Option Addr} {cs : List Value} (h : CelAt w p cs) (h0 : 0 < cs.length) : ∃ b off, p = some ⟨b, off, none⟩ := by
  obtain ⟨b, off, e, -⟩ := h 0 h0
  exact ⟨b, off, e⟩
theorem CelAt.src {w : World} {b off : Nat} {cs : List Value} (h : CelAt w (some ⟨b, off, none⟩) cs) : ∀ j u, cs[j]? = some u → w.cell? ((⟨b, off, none⟩ : Addr).add j) = some u := by
  intro j u hu
  obtain ⟨hj, rfl⟩ := List.getElem?_eq_some_iff.1 hu
  obtain ⟨b', off', e, _, h2⟩ := h j hj
  cases e
  rw [show (⟨b, off, none⟩ : Addr).add j = ⟨b, off + j, none⟩ by unfold Addr.add; split <;> simp_all]
  exact h2
theorem CelAt.take {w : World} {p : Option Addr} {cs : List Value} (h : CelAt w p cs) (k : Nat) : CelAt w p (cs.take k) := fun j hj => by
  obtain ⟨b, off, e, h1, h2⟩ := h j (by simp at hj; omega)
  exact ⟨b, off, e, h1, by rw [h2, List.getElem_take]⟩
theorem CelAt.drop {w : World} {b off : Nat} {cs : List Value} (h : CelAt w (some ⟨b, off, none⟩) cs) (k : Nat) : CelAt w (some ⟨b, off + k, none⟩) (cs.drop k) := fun j hj => by
  obtain ⟨b', off', e, h1, h2⟩ := h (k + j) (by simp at hj; omega)
  cases e
  exact ⟨b, off + k, rfl, h1, by rw [Nat.add_assoc, h2, List.getElem_drop]⟩
theorem own_cel {w : World} {base : Nat} {e : TypeId} {size n : Nat} {p : Option Addr} {cap : Nat} {xs : List Value} (h : w.ownsRow base e size (.slice p n cap) n xs) : CelAt w p xs := by
  rcases h.2 with ⟨e0, h0⟩ | ⟨g, cap', cur, e0, _, hg, _, _, hs, ht⟩
  · cases e0
    have hl := h.1
    intro j hj
    rw [hl, Nat.zero_mul] at hj
    omega
  · cases e0
    have hl := h.1
    intro j hj
    refine ⟨g, 0, rfl, lt_of_block hg, ?_⟩
    rw [Nat.zero_add, h.cellAt j (by omega), List.getElem?_eq_getElem hj]
/-- Where the own row of an answer lies: where it lay, or in new memory. -/
def Lies (w : World) (v v' : Value) : Prop := ∀ j, v'.ownBlock = some j → v.ownBlock = some j ∨ w.heap.size ≤ j
theorem app_cel {P : Program} {t e : TypeId} {i : TypeInfo} {z : Value} {size bytes : Nat} (E : ElT P t e i z size bytes) (ty : TypeId) (w : World) (base : Nat) (v : Value) (n : Nat) (xs : List Value) (own : w.ownsRow base e size v n xs) (p : Option Addr) (m c : Nat) (news : List Value) (hp : CelAt w p news) (hl : news.length = m * size) (one : ∀ u ∈ news, u.oneCell' = true) (hb : (n + m) * bytes ≤ 140737488355328) (hm : n + m ≤ maxLen) (hbase : base ≤ w.heap.size) :
    ∃ v' w', (Builtin.append_ #[t, t] ty #[v, .slice p m c]).run P w = .ok v' w' ∧ w'.ownsRow base e size v' (n + m) (xs ++ news) ∧ w.grownBy w' v.ownBlock ∧ Lies w v v' := by
  by_cases h0 : m = 0
  · subst h0
    have hn : news = [] := List.eq_nil_of_length_eq_zero (by simpa using hl)
    subst hn
    refine ⟨v, w, ?_, by simpa using own, World.grownBy.refl _ _, fun j hj => .inl hj⟩
    rcases own.2 with ⟨rfl, rfl⟩ | ⟨g, cap', cur, rfl, _, _, hnc, _⟩
    · cases p <;> simp [Builtin.append_, run_underlying E.ht, sizeOf, typeInfo, E.hi, Builtin.lenOf, Builtin.firstCells, loadCells, loadCellsFrom]
    · cases p <;> simp [Builtin.append_, run_underlying E.ht, sizeOf, typeInfo, E.hi, Builtin.lenOf, Builtin.firstCells, hnc, storeCells, loadCells, loadCellsFrom]
  · have hpos : 0 < news.length := by rw [hl]; exact Nat.mul_pos (by omega) E.h0
    obtain ⟨b, off, rfl⟩ := hp.some_of hpos
    obtain ⟨g, cap', w', h1, h2, h3, h4, _⟩ := run_append_lies (P := P) w t ty base e i z size bytes E.ht E.hi E.hz E.hs E.hb E.hzs E.h0 v n xs own ⟨b, off, none⟩ m c news hl hp.src one (by omega) hm hb hbase _ rfl
    refine ⟨_, w', h1, h2, h3, fun j hj => ?_⟩
    have hj : some g = some j := hj
    cases hj
    rcases h4 with h | h
    · exact .inl h
    · exact .inr (by omega)
theorem Bxs.row {w : World} {g : Nat} {T : TypeId} {cs : Array Value} (h : Bxs w g T cs) (cs' : Array Value) : Bxs (w.setRow g cs') g T cs' := setRow_heap w g cs cs' T (0, 0) h
theorem row_other (w : World) (g k : Nat) (cs : Array Value) (hne : k ≠ g) : (w.setRow g cs).heap[k]? = w.heap[k]? := by
  have : g ≠ k := fun e => hne e.symm
  simp [World.setRow, Array.getElem?_modify, this]
theorem row_size (w : World) (g : Nat) (cs : Array Value) : (w.setRow g cs).heap.size = w.heap.size := by simp [World.setRow]
theorem grown_row (w : World) (g : Nat) (cs : Array Value) : w.grownBy (w.setRow g cs) (some g) := ⟨rfl, rfl, rfl, by rw [row_size]; exact Nat.le_refl _, fun k _ hne => row_other w g k cs (fun e => hne (by rw [e]))⟩
theorem Bxs.rowOther {w : World} {g : Nat} {T : TypeId} {cs : Array Value} (h : Bxs w g T cs) (g' : Nat) (cs' : Array Value) (hne : g ≠ g') : Bxs (w.setRow g' cs') g T cs := (row_other w g' g cs' hne).trans h
theorem run_copy_bx {P : Program} {t e : TypeId} {i : TypeInfo} {z : Value} {size bytes : Nat} (E : ElT P t e i z size bytes) (ty : TypeId) (w : World) (g o dLen dCap : Nat) (a : Addr) (sLen sCap k : Nat) (cur : Array Value) (cs : List Value)
    (hg : Bxs w g e cur) (hk : k = Nat.min sLen dLen) (hn : cs.length = k * size)
    (hsrc : ∀ j v, cs[j]? = some v → w.cell? (a.add j) = some v) (hfit : o + cs.length ≤ cur.size) (h1 : ∀ v ∈ cs, v.oneCell' = true) :
    (Builtin.copy_ #[t, t] ty #[.slice (some ⟨g, o, none⟩) dLen dCap, .slice (some a) sLen sCap]).run P w =
      .ok (goInt k) (w.setRow g (cur.toList.take o ++ cs ++ cur.toList.drop (o + cs.length)).toArray) := by
  have hl := run_firstCells_some (P := P) w size k a sLen sCap cs hn hsrc
  have hst := run_storeCells_at P g o e cs 0 cur w hg (by simpa using hfit) h1
  subst hk
  simp [Builtin.copy_, run_underlying E.ht, Builtin.lenOf, sizeOf, typeInfo, E.hi, E.hs, hl, hst]
theorem run_append_bx {P : Program} {t e : TypeId} {i : TypeInfo} {z : Value} {size bytes : Nat} (E : ElT P t e i z size bytes) (ty : TypeId) (w : World) (g sLen sCap : Nat) (a : Addr) (m c : Nat) (cur : Array Value) (news : List Value)
    (hg : Bxs w g e cur) (hl : news.length = m * size) (hsrc : ∀ j v, news[j]? = some v → w.cell? (a.add j) = some v) (hroom : sLen + m ≤ sCap) (hfit : sLen * size + news.length ≤ cur.size) (h1 : ∀ v ∈ news, v.oneCell' = true) :
    (Builtin.append_ #[t, t] ty #[.slice (some ⟨g, 0, none⟩) sLen sCap, .slice (some a) m c]).run P w =
      .ok (.slice (some ⟨g, 0, none⟩) (sLen + m) sCap) (w.setRow g (cur.toList.take (sLen * size) ++ news ++ cur.toList.drop (sLen * size + news.length)).toArray) := by
  have hfc := run_firstCells_some (P := P) w size m a m c news hl hsrc
  have hst := run_storeCells_at P g (sLen * size) e news 0 cur w hg (by simpa using hfit) h1
  simp only [Nat.add_zero] at hst
  simp [Builtin.append_, run_underlying E.ht, sizeOf, typeInfo, E.hi, E.hs, Builtin.lenOf, hroom, hfc, Addr.add_lit, hst]
theorem run_clear_bx {P : Program} {t e : TypeId} {i : TypeInfo} {z : Value} {size bytes : Nat} (E : ElT P t e i z size bytes) (ty : TypeId) (w : World) (g o c : Nat) (cur : Array Value)
    (hg : Bxs w g e cur) (hfit : o + size ≤ cur.size) :
    (Builtin.clear_ #[t] ty #[.slice (some ⟨g, o, none⟩) 1 c]).run P w =
      .ok (.tuple #[]) (w.setRow g (cur.toList.take o ++ z.cells.toList ++ cur.toList.drop (o + size)).toArray) := by
  have hzc : (Builtin.zeroCells z.cells 1).toList = z.cells.toList := by
    apply List.ext_getElem
    · simp [Builtin.zeroCells]
    · intro j h1 h2
      have : j < z.cells.size := by simpa using h2
      simp [Builtin.zeroCells, Nat.mod_eq_of_lt this, getElem!_pos z.cells j this]
  have hlen : z.cells.toList.length = size := by simpa using E.hzs
  have hst := run_storeCells_at P g o e z.cells.toList 0 cur w hg (by rw [hlen]; simpa using hfit) E.one
  rw [hlen] at hst
  simp only [Nat.add_zero] at hst
  simp [Builtin.clear_, run_underlying E.ht, zeroValue, typeInfo, E.hi, E.hz, hzc, hst]
theorem own_bxs {w : World} {base : Nat} {e : TypeId} {size g n cap : Nat} {xs : List Value} (h : w.ownsRow base e size (.slice (some ⟨g, 0, none⟩) n cap) n xs) : ∃ cur, Bxs w g e cur ∧ base ≤ g ∧ n ≤ cap ∧ cap ≤ maxLen ∧ cur.size = cap * size ∧ cur.toList.take (n * size) = xs := by
  rcases h.2 with ⟨e0, _⟩ | ⟨g', cap', cur, e0, h1, h2, h3, h4, h5, h6⟩
  · cases e0
  · cases e0
    exact ⟨cur, h2, h1, h3, h4, h5, h6⟩
theorem bxs_ownE {w : World} {base : Nat} {e : TypeId} {size g n cap : Nat} {xs : List Value} {cur : Array Value} (hg : Bxs w g e cur) (hb : base ≤ g) (hn : n ≤ cap) (hm : cap ≤ maxLen) (hs : cur.size = cap * size) (ht : cur.toList.take (n * size) = xs) : w.ownsRow base e size (.slice (some ⟨g, 0, none⟩) n cap) n xs := by
  refine ⟨?_, .inr ⟨g, cap, cur, rfl, hb, hg, hn, hm, hs, ht⟩⟩
  rw [← ht, List.length_take, Array.length_toList, hs]
  exact Nat.min_eq_left (Nat.mul_le_mul_right _ hn)
theorem copy_wp {P : Program} {w : World} {o : Oper} {a : Act} {K : Act → World → Prop} {Q : Exit → Act → World → Prop} (d x : Operand) (t t' : TypeId)
    (ho : o.op = .call { callee := .builtin .copy, args := #[d, x], argTypes := #[t, t'] }) (v u : Value) (hd : a.eval d = v) (hx : a.eval x = u) (v' : Value) (w' : World)
    (hr : (Builtin.copy_ #[t, t'] o.type #[v, u]).run P w = .ok v' w') (h : K (a.put o.dst v') w') : o.wp P a w K Q := by
  unfold Oper.wp execOp
  simp only [ho, resolve, invoke, builtin, Sem.run_bind, Sem.run_pure, Result.andThen_ok, List.map_toArray, List.map_cons, List.map_nil, hd, hx, hr]
  exact h
theorem step_copy_bx {P : Program} {w : World} {ops : Array Oper} {o : Oper} {a : Act} {K : Act → World → Prop} {Q : Exit → Act → World → Prop} {E : Prop} (hgd : o.guard = none) (d x : Operand) (t t' : TypeId)
    (ho : o.op = .call { callee := .builtin .copy, args := #[d, x], argTypes := #[t, t'] }) (v u v' : Value) (w' : World) (hd : a.eval d = v) (hx : a.eval x = u)
    (hr : (Builtin.copy_ #[t, t'] o.type #[v, u]).run P w = .ok v' w') (h : K (a.put o.dst v') w') : if Region.wanted o (yielded ops a.tmps) = true then Oper.wp P o a w K Q else E := by
  rw [if_pos (by simp [Region.wanted, hgd])]
  exact copy_wp d x t t' ho v u hd hx v' w' hr h
theorem wpList_app {P : Program} {w : World} {ops : Array Oper} {rest : List Oper} {o : Oper} {a : Act} {Q : Exit → Act → World → Prop} (hgd : o.guard = none) (s x : Operand) (t t' : TypeId)
    (ho : o.op = .call { callee := .builtin .append, args := #[s, x], argTypes := #[t, t'] }) (v1 v2 v' : Value) (w' : World) (hs : a.eval s = v1) (hx : a.eval x = v2)
    (hr : (Builtin.append_ #[t, t'] o.type #[v1, v2]).run P w = .ok v' w') (h : wpList P ops Q rest (a.put o.dst v') w') : wpList P ops Q (o :: rest) a w :=
  wpList_plain hgd fun _ hK => by
    unfold Oper.wp execOp
    simp only [ho, resolve, invoke, builtin, Sem.run_bind, Sem.run_pure, Result.andThen_ok, List.map_toArray, List.map_cons, List.map_nil, hs, hx, hr]
    exact hK _ _ h
theorem wpList_copy_bx {P : Program} {w : World} {ops : Array Oper} {rest : List Oper} {o : Oper} {a : Act} {Q : Exit → Act → World → Prop} (hgd : o.guard = none) (d x : Operand) (t t' : TypeId)
    (ho : o.op = .call { callee := .builtin .copy, args := #[d, x], argTypes := #[t, t'] }) (v u v' : Value) (w' : World) (hd : a.eval d = v) (hx : a.eval x = u)
    (hr : (Builtin.copy_ #[t, t'] o.type #[v, u]).run P w = .ok v' w') (h : wpList P ops Q rest (a.put o.dst v') w') : wpList P ops Q (o :: rest) a w :=
  wpList_plain hgd fun _ hK => copy_wp d x t t' ho v u hd hx v' w' hr (hK _ _ h)
end Go.Proofs.YtnppgldafhpchaaDoor
