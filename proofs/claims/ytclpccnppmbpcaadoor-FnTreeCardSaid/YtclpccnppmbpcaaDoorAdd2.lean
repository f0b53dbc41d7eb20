/-
  What the specification's RangeAdd answers: 'addN', 'addL', its nodes in new memory of their own.
  Conditions: Size is an int64; the cells of Nodes hold the texts, at most 2^20 of them.
-/
import Derived.Test.YtclpccnppmbpcaaDoorRows
import Derived.Test.YtclpccnppmbpcaaDoorBytes
import Derived.Test.YtclpccnppmbpcaaDoorDigMath
import Derived.Test.YtclpccnppmbpcaaDoorTreeMath
import Derived.Test.YtclpccnppmbpcaaDoorSlA
import Derived.Test.YtclpccnppmbpcaaDoorLeafNode
import Derived.Test.YtclpccnppmbpcaaDoorSlBOwnS
import Derived.Test.YtclpccnppmbpcaaDoorAppS
import Derived.Test.YtclpccnppmbpcaaDoorOnesMathOnes
import Derived.Test.YtclpccnppmbpcaaDoorRange
import Derived.Test.YtclpccnppmbpcaaDoorRootMathAddMathCopied
import Derived.Test.YtclpccnppmbpcaaDoorAddI
import Derived.Handy
import Derived.OwnWalk
import Derived.Laws.OwnMore
import Derived.Deep.AppendLies
import Derived.Deep.RegionLaw
import Derived.Deep.Cut
import Derived.Deep.CutRange
namespace Go.Proofs.YtclpccnppmbpcaaDoor
open Go.RowKit Go.Lib
set_option linter.unusedVariables false
set_option maxRecDepth 20000

theorem step_append_run {P : Program} {w : World} {ops : Array Oper} {o : Oper} {a : Act} {K : Act → World → Prop} {Q : Exit → Act → World → Prop} {E : Prop} (hgd : o.guard = none) (s x : Operand) (t : TypeId)
    (ho : o.op = .call { callee := .builtin .append, args := #[s, x], argTypes := #[t, t] }) (v1 v2 v' : Value) (w' : World) (hs : a.eval s = v1) (hx : a.eval x = v2)
    (hr : (Builtin.append_ #[t, t] o.type #[v1, v2]).run P w = .ok v' w') (h : K (a.put o.dst v') w') :
    if Region.wanted o (yielded ops a.tmps) = true then Oper.wp P o a w K Q else E := by
  have hw : Region.wanted o (yielded ops a.tmps) = true := by simp [Region.wanted, hgd]
  rw [if_pos hw]
  unfold Oper.wp execOp
  simp only [ho, resolve, invoke, builtin, Sem.run_bind, Sem.run_pure, Result.andThen_ok, List.map_toArray, List.map_cons, List.map_nil, hs, hx, hr]
  exact h
/-- The box of what is made, and its nodes, in memory that came behind W2. -/
structure AddS (W2 : World) (X : Nat) (a : Int) (v : Value) (l : List ByteArray) (w : World) : Prop where
  bel : Below W2.heap.size W2 w
  hX : W2.heap.size ≤ X
  box : w.heap[X]? = some (.cells #[.int .i64 a, v] 48 (0, 0))
  own : w.ownsRow W2.heap.size 9 1 v l.length (strRow l)
theorem AddS.lt {W2 : World} {X : Nat} {a : Int} {v : Value} {l : List ByteArray} {w : World} (h : AddS W2 X a v l w) : X < w.heap.size := lt_of_block h.box
theorem AddS.ne {W2 : World} {X : Nat} {a : Int} {v : Value} {l : List ByteArray} {w : World} {v' : Value} {n : Nat} {xs : List Value} (h : AddS W2 X a v l w) (ho : w.ownsRow W2.heap.size 9 1 v' n xs) : v'.ownBlock ≠ some X := by
  intro he
  rcases ho.2 with ⟨rfl, _⟩ | ⟨g, cap, cur, rfl, _, hg, _⟩
  · cases he
  · have : g = X := by simpa [Value.ownBlock] using he
    subst this
    rw [h.box] at hg; simp at hg
theorem AddS.below {W2 : World} {X : Nat} {a : Int} {v : Value} {l : List ByteArray} {w w' : World} (h : AddS W2 X a v l w) (hb : Below w.heap.size w w') : AddS W2 X a v l w' :=
  ⟨h.bel.trans (hb.mono h.bel.size), h.hX, (hb.block _ h.lt).trans h.box, ownS_below h.own hb⟩
theorem AddS.cells {W2 : World} {X : Nat} {a : Int} {v : Value} {l : List ByteArray} {w : World} (h : AddS W2 X a v l w) : w.cell? ⟨X, 0, none⟩ = some (.int .i64 a) ∧ w.cell? ⟨X, 1, none⟩ = some v ∧ w.frozen? ⟨X, 0, none⟩ = false ∧ w.frozen? ⟨X, 1, none⟩ = false := by
  simp [World.cell?, World.frozen?, h.box]
theorem AddS.setV {W2 : World} {X : Nat} {a : Int} {v v' : Value} {l l' : List ByteArray} {w : World} (h : AddS W2 X a v l w) (ho : w.ownsRow W2.heap.size 9 1 v' l'.length (strRow l')) : AddS W2 X a v' l' (w.setCell ⟨X, 1, none⟩ v') :=
  ⟨h.bel.setCell h.hX _, h.hX, by rw [blk_set h.box]; rfl, ownsRow_setCell_other ho (by simpa using h.ne ho) _⟩
theorem AddS.setN {W2 : World} {X : Nat} {a b : Int} {v : Value} {l : List ByteArray} {w : World} (h : AddS W2 X a v l w) : AddS W2 X b v l (w.setCell ⟨X, 0, none⟩ (.int .i64 b)) :=
  ⟨h.bel.setCell h.hX _, h.hX, by rw [blk_set h.box]; rfl, ownsRow_setCell_other h.own (by simpa using h.ne h.own) _⟩

theorem AddS.append {W2 : World} {X : Nat} {a : Int} {v v2 : Value} {l l2 : List ByteArray} {w w6 : World} (h : AddS W2 X a v l w) (o : Obj) (hg : (w.alloc o).grownBy w6 v.ownBlock) (ho : w6.ownsRow W2.heap.size 9 1 v2 l2.length (strRow l2)) :
    AddS W2 X a v2 l2 (w6.setCell ⟨X, 1, none⟩ v2) ∧ w6.cell? ⟨X, 1, none⟩ = some v ∧ w6.frozen? ⟨X, 1, none⟩ = false := by
  have hlt := h.lt
  have hb : w6.heap[X]? = some (.cells #[.int .i64 a, v] 48 (0, 0)) := (hg.block X (by simp; omega) (fun e => h.ne h.own e.symm)).trans ((Below.heap_alloc _ _ _ hlt).trans h.box)
  have hB : Below W2.heap.size W2 w6 := (h.bel.alloc h.bel.size _).grown hg (by have := h.bel.size; simp; omega) (fun j hj => (h.own.lt j hj).1)
  have hne : v2.ownBlock ≠ some X := by
    intro he
    rcases ho.2 with ⟨rfl, _⟩ | ⟨g, cap, cur, rfl, _, hg', _⟩
    · cases he
    · have : g = X := by simpa [Value.ownBlock] using he
      subst this
      rw [hb] at hg'; simp at hg'
  refine ⟨⟨hB.setCell h.hX _, h.hX, by rw [blk_set hb]; rfl, ownsRow_setCell_other ho (by simpa using hne) _⟩, ?_, ?_⟩ <;> simp [World.cell?, World.frozen?, hb]
set_option maxHeartbeats 4000000 in
theorem specAdd_any (n : Int) (p : Option Addr) (cap : Nat) (ss : List ByteArray) (t : ByteArray) (w : World) (hp : TxtAt w p ss) (hn : ss.length ≤ 1048576) (hcap : ss.length ≤ cap) (hs : ∀ x ∈ ss, x.size ≤ 1048576) (ht : t.size ≤ maxLen) (n0 : -9223372036854775808 ≤ n) (n1 : n ≤ 9223372036854775807) :
    Calls Tryd.prog 36 #[.agg #[.int .i64 n, .slice p ss.length cap], .string t] w fun e w' => ∃ v, e = .returned (.agg #[.int .i64 (addN n ss t), v]) ∧ w'.ownsRow w.heap.size 9 1 v (addL n ss t).length (strRow (addL n ss t)) ∧ Below w.heap.size w w' := by
  have HP : Hid (TxtAt w p ss) := hp
  have HS : Hid (∀ x ∈ ss, x.size ≤ 1048576) := hs
  clear hp hs
  have ht' := ht
  unfold maxLen at ht
  obtain ⟨W2, hW2⟩ : ∃ W2, W2 = (w.alloc (.cells #[.int .i64 n, .slice p ss.length cap] 48)).alloc (.cells #[.int .i64 0, .slice none 0 0] 48) := ⟨_, rfl⟩
  have B0 : Hid (Below w.heap.size w W2) := by rw [hW2]; exact ((Below.refl _ _).alloc (Nat.le_refl _) _).alloc (by simp) _
  have HS2 : Hid (W2.heap.size = w.heap.size + 2) := by rw [hW2]; show _ = _; simp
  have HK : Hid (∀ w4, Below W2.heap.size W2 w4 → w4.cell? ⟨w.heap.size, 0, none⟩ = some (.int .i64 n) ∧ w4.cell? ⟨w.heap.size, 1, none⟩ = some (.slice p ss.length cap) ∧ w4.cell? ⟨w.heap.size + 1, 0, none⟩ = some (.int .i64 0) ∧ w4.cell? ⟨w.heap.size + 1, 1, none⟩ = some (.slice none 0 0) ∧
      w4.frozen? ⟨w.heap.size + 1, 0, none⟩ = false ∧ w4.frozen? ⟨w.heap.size + 1, 1, none⟩ = false) := by
    intro w4 hb
    have hs := HS2.out
    refine ⟨?_, ?_, ?_, ?_, ?_, ?_⟩
    · rw [hb.cell (p := ⟨w.heap.size, 0, none⟩) (by show w.heap.size < _; omega), hW2]; go_simp
    · rw [hb.cell (p := ⟨w.heap.size, 1, none⟩) (by show w.heap.size < _; omega), hW2]; go_simp
    · rw [hb.cell (p := ⟨w.heap.size + 1, 0, none⟩) (by show w.heap.size + 1 < _; omega), hW2]; go_simp
    · rw [hb.cell (p := ⟨w.heap.size + 1, 1, none⟩) (by show w.heap.size + 1 < _; omega), hW2]; go_simp
    · rw [hb.frozen (p := ⟨w.heap.size + 1, 0, none⟩) (by show w.heap.size + 1 < _; omega), hW2]; go_simp
    · rw [hb.frozen (p := ⟨w.heap.size + 1, 1, none⟩) (by show w.heap.size + 1 < _; omega), hW2]; go_simp
  have HW2 : Hid (W2 = (w.alloc (.cells #[.int .i64 n, .slice p ss.length cap] 48)).alloc (.cells #[.int .i64 0, .slice none 0 0] 48)) := hW2
  have HN : Hid (addN n ss t = if 8000 < t.size then 0 else if addOk n ss t then n + 1 else n) := rfl
  have HL : Hid (addL n ss t = if 8000 < t.size then [] else if addOk n ss t then carry n.toNat ss (leafB t) else ss) := rfl
  clear hW2
  by_cases hbig : 8000 < t.size
  · rw [HN.out, HL.out, if_pos hbig, if_pos hbig]
    obtain ⟨k0, k1, k2, k3, f2, f3⟩ := HK.out W2 (Below.refl _ _)
    go_enter Tryd.func36, Tryd.ntmps36
    go_wp2_with fail
    refine bodyPost_ret (v := .agg #[.int .i64 0, .slice none 0 0]) (by simp [results, Tryd.results36, go_sem]) rfl ?_
    refine ⟨_, rfl, World.ownsRow_nil _ _ _ _, ?_⟩
    exact ((Below.refl _ _).alloc (Nat.le_refl _) _).alloc (by simp) _
  have HRR : Hid (∀ w', Below W2.heap.size W2 w' → Calls Tryd.prog 78 #[.agg #[.int .i64 n, .slice p ss.length cap]] w' fun e w'' => e = .returned (.bool (rngB n ss)) ∧ Below w'.heap.size w' w'') := fun w' hb =>
    range2_any n p cap ss w' (HP.out.below (chainB B0.out hb)) (by omega) hcap n0 n1
  have HN' : Hid (addN n ss t = if addOk n ss t then n + 1 else n) := HN.out.trans (if_neg hbig)
  have HL' : Hid (addL n ss t = if addOk n ss t then carry n.toNat ss (leafB t) else ss) := HL.out.trans (if_neg hbig)
  clear HN HL
  have hE : Below W2.heap.size W2 (W2.alloc (.cells #[] 9)) := (Below.refl _ _).alloc (Nat.le_refl _) _
  have hZ : Below W2.heap.size W2 (W2.alloc (.cells #[.int .i64 0, .slice none 0 0] 48)) := (Below.refl _ _).alloc (Nat.le_refl _) _
  have oA : (((W2.alloc (.cells #[.int .i64 0, .slice none 0 0] 48)).alloc (.cells #[] 9)).drew).ownsRow W2.heap.size 9 1 (.slice (some ⟨W2.heap.size + 1, 0, none⟩) 0 0) ([] : List ByteArray).length (strRow []) := by
    have := ownS_none (W2.alloc (.cells #[.int .i64 0, .slice none 0 0] 48))
    rw [show (W2.alloc (.cells #[.int .i64 0, .slice none 0 0] 48)).heap.size = W2.heap.size + 1 by simp] at this
    exact (ownS_mono this (by omega)).drew
  obtain ⟨vA, wA, hrA, hoA, hgA⟩ := app_texts (((W2.alloc (.cells #[.int .i64 0, .slice none 0 0] 48)).alloc (.cells #[] 9)).drew) W2.heap.size (.slice (some ⟨W2.heap.size + 1, 0, none⟩) 0 0) [] oA p cap ss ((HP.out.below (chainB B0.out ((hZ.alloc hZ.size _).drew)))) (by simp; omega) (by simp; omega)
  obtain ⟨vB, wB, hrB, hoB, hgB⟩ := app_texts (((W2.alloc (.cells #[] 9)).alloc (.cells #[.int .i64 0, .slice none 0 0] 48)).drew) W2.heap.size _ [] (((ownS_none W2).alloc _).drew) p cap ss ((HP.out.below (chainB B0.out ((hE.alloc hE.size _).drew)))) (by simp; omega) (by simp; omega)
  obtain ⟨vC, wC, hrC, hoC, hgC⟩ := app_texts ((W2.alloc (.cells #[] 9)).drew) W2.heap.size _ [] ((ownS_none W2).drew) p cap ss ((HP.out.below (chainB B0.out hE.drew))) (by simp; omega) (by simp)
  rw [List.nil_append] at hoA hoB hoC
  have bA : Below W2.heap.size W2 wA := ((hZ.alloc hZ.size _).drew).grown hgA (by simp; omega) (fun j hj => by simp [Value.ownBlock] at hj; omega)
  have bB : Below W2.heap.size W2 wB := ((hE.alloc hE.size _).drew).grown hgB (by simp; omega) (fun j hj => by simp [Value.ownBlock] at hj; omega)
  have bC : Below W2.heap.size W2 wC := (hE.drew).grown hgC (by simp) (fun j hj => by simp [Value.ownBlock] at hj; omega)
  have xA : wA.heap[W2.heap.size]? = some (.cells #[.int .i64 0, .slice none 0 0] 48 (0, 0)) := (hgA.block W2.heap.size (by simp; omega) (by simp [Value.ownBlock])).trans ((Below.heap_alloc _ _ _ (by simp)).trans (MapKept.heap_alloc W2 _).1)
  have xB : wB.heap[W2.heap.size + 1]? = some (.cells #[.int .i64 0, .slice none 0 0] 48 (0, 0)) := (hgB.block (W2.heap.size + 1) (by simp) (by simp [Value.ownBlock])).trans (by have := (MapKept.heap_alloc (W2.alloc (.cells #[] 9)) (.cells #[.int .i64 0, .slice none 0 0] 48)).1; rw [show (W2.alloc (.cells #[] 9)).heap.size = W2.heap.size + 1 by simp] at this; exact this)
  have sA : Hid (AddS W2 W2.heap.size n vA ss ((wA.setCell ⟨W2.heap.size, 0, none⟩ (.int .i64 n)).setCell ⟨W2.heap.size, 1, none⟩ vA)) := by
    have h0 : AddS W2 W2.heap.size 0 (.slice none 0 0) [] wA := ⟨bA, Nat.le_refl _, xA, World.ownsRow_nil _ _ _ _⟩
    exact (h0.setN (b := n)).setV (ownsRow_setCell_other hoA (by simpa using h0.ne hoA) _)
  have sB : Hid (AddS W2 (W2.heap.size + 1) n vB ss ((wB.setCell ⟨W2.heap.size + 1, 0, none⟩ (.int .i64 n)).setCell ⟨W2.heap.size + 1, 1, none⟩ vB)) := by
    have h0 : AddS W2 (W2.heap.size + 1) 0 (.slice none 0 0) [] wB := ⟨bB, by omega, xB, World.ownsRow_nil _ _ _ _⟩
    exact (h0.setN (b := n)).setV (ownsRow_setCell_other hoB (by simpa using h0.ne hoB) _)
  have sC : Hid (AddS W2 wC.heap.size n vC ss (wC.alloc (.cells #[.int .i64 n, vC] 48))) :=
    ⟨bC.alloc bC.size _, bC.size, (MapKept.heap_alloc wC _).1, hoC.alloc _⟩
  have cA : wA.cell? ⟨W2.heap.size, 0, none⟩ = some (.int .i64 0) ∧ wA.cell? ⟨W2.heap.size, 1, none⟩ = some (.slice none 0 0) ∧ wA.frozen? ⟨W2.heap.size, 0, none⟩ = false ∧ wA.frozen? ⟨W2.heap.size, 1, none⟩ = false := by simp [World.cell?, World.frozen?, xA]
  have cB : wB.cell? ⟨W2.heap.size + 1, 0, none⟩ = some (.int .i64 0) ∧ wB.cell? ⟨W2.heap.size + 1, 1, none⟩ = some (.slice none 0 0) ∧ wB.frozen? ⟨W2.heap.size + 1, 0, none⟩ = false ∧ wB.frozen? ⟨W2.heap.size + 1, 1, none⟩ = false := by simp [World.cell?, World.frozen?, xB]
  obtain ⟨cA0, cA1, cA2, cA3⟩ := cA
  obtain ⟨cB0, cB1, cB2, cB3⟩ := cB
  obtain ⟨pA, qA, rfl, _, _⟩ := ownS_form hoA
  obtain ⟨pB, qB, rfl, _, _⟩ := ownS_form hoB
  obtain ⟨pC, qC, rfl, _, _⟩ := ownS_form hoC
  have HRa : Hid _ := hrA
  have HRb : Hid _ := hrB
  have HRc : Hid _ := hrC
  have mA := (HK.out wA bA)
  have mB := (HK.out wB bB)
  have mC := (HK.out wC bC)
  have mE := (HK.out _ hE)
  have mZ := (HK.out _ hZ)
  have mEZ := (HK.out _ (hE.alloc hE.size (.cells #[.int .i64 0, .slice none 0 0] 48)))
  have mZE := (HK.out _ (hZ.alloc hZ.size (.cells #[] 9)))
  have mCZ := (HK.out _ (bC.alloc bC.size (.cells #[.int .i64 0, .slice none 0 0] 48)))
  obtain ⟨mA0, mA1, _⟩ := mA
  obtain ⟨mB0, mB1, _⟩ := mB
  obtain ⟨mC0, mC1, _⟩ := mC
  obtain ⟨mE0, mE1, _⟩ := mE
  obtain ⟨mZ0, mZ1, _⟩ := mZ
  obtain ⟨mEZ0, mEZ1, _⟩ := mEZ
  obtain ⟨mZE0, mZE1, _⟩ := mZE
  obtain ⟨mCZ0, mCZ1, _⟩ := mCZ
  clear hoA hoB hoC hgA hgB hgC xA xB hrA hrB hrC
  obtain ⟨k0, k1, k2, k3, f2, f3⟩ := HK.out W2 (Below.refl _ _)
  go_enter Tryd.func36, Tryd.ntmps36
  go_upto_region 3 with fail
  rw [← HW2.out]
  go_cut [5] from 13 to 19 (fun s5 wx => ∃ X v, s5 = .pointer (some ⟨X, 0, none⟩) ∧ Hid (AddS W2 X n v ss wx))
  case first =>
    go_region_law (first
      | (refine step_append_run rfl _ _ 41 rfl (.slice (some ⟨W2.heap.size, 0, none⟩) 0 0) (.slice p ss.length cap) _ _ rfl rfl (by first | with_reducible exact HRb.out | with_reducible exact HRc.out) ?_)
      | (refine step_append_run rfl _ _ 41 rfl (.slice (some ⟨W2.heap.size + 1, 0, none⟩) 0 0) (.slice p ss.length cap) _ _ rfl rfl (by with_reducible exact HRa.out) ?_))
    all_goals (go_wp2_with fail; go_meet; first | exact ⟨_, _, rfl, sA⟩ | exact ⟨_, _, rfl, sB⟩ | exact ⟨_, _, rfl, sC⟩)
  case rest =>
  obtain ⟨X, v, rfl, hS⟩ := hcut
  clear mA0 mA1 mB0 mB1 mC0 mC1 mE0 mE1 mZ0 mZ1 mEZ0 mEZ1 mZE0 mZE1 mCZ0 mCZ1 cA0 cA1 cA2 cA3 cB0 cB1 cB2 cB3 sA sB sC HRa HRb HRc bA bB bC hE hZ oA k0 k1 k2 k3 f2 f3
  have HF : Hid (∀ (w5 : World) (v : Value) (l : List ByteArray) (a b : Value), w5.ownsRow W2.heap.size 9 1 v l.length (strRow l) → Below W2.heap.size W2 w5 →
      ((w5.setCell ⟨w.heap.size + 1, 0, none⟩ a).setCell ⟨w.heap.size + 1, 1, none⟩ b).ownsRow w.heap.size 9 1 v l.length (strRow l) ∧ Below w.heap.size w ((w5.setCell ⟨w.heap.size + 1, 0, none⟩ a).setCell ⟨w.heap.size + 1, 1, none⟩ b)) := by
    intro w5 v l a b ho hb
    have hs := HS2.out
    refine ⟨ownS_mono (ownsRow_setCell_below (ownsRow_setCell_below ho (by show w.heap.size + 1 < _; omega) _) (by show w.heap.size + 1 < _; omega) _) (by omega), ?_⟩
    exact ((chainB B0.out hb).setCell (by show w.heap.size ≤ w.heap.size + 1; omega) _).setCell (by show w.heap.size ≤ w.heap.size + 1; omega) _
  obtain ⟨k0, k1, k2, k3, f2, f3⟩ := HK.out wc hS.out.bel
  go_wp2_with fail
  cases c1 : rngB n ss
  · rw [c1] at HRR
    have hno : ¬ addOk n ss t := fun h => by have := h.1; rw [c1] at this; cases this
    clear c1
    have eN : Hid (addN n ss t = n) := HN'.out.trans (if_neg hno)
    have eL : Hid (addL n ss t = ss) := HL'.out.trans (if_neg hno)
    clear hno
    refine (HRR.out _ hS.out.bel).mono ?_
    rintro e w4 ⟨rfl, b4⟩
    have S4 : Hid (AddS W2 X n v ss w4) := hS.out.below b4
    obtain ⟨k0, k1, k2, k3, f2, f3⟩ := HK.out w4 S4.out.bel
    obtain ⟨x0, x1, _, _⟩ := S4.out.cells
    obtain ⟨p', c', rfl, _, _⟩ := ownS_form S4.out.own
    go_wp2_with fail
    refine bodyPost_ret (v := .agg #[.int .i64 n, .slice p' ss.length c']) (by simp [results, Tryd.results36, go_sem, k2, k3]) rfl ?_
    exact ⟨_, by rw [eN.out], by rw [eL.out]; exact HF.out w4 _ ss _ _ S4.out.own S4.out.bel⟩
  by_cases c2 : n < 1000000
  case neg =>
    have hn6 : decide (1000000 ≤ n) = true := decide_eq_true (by omega)
    rw [c1] at HRR
    have hno : ¬ addOk n ss t := fun h => c2 h.2.1
    clear c1 c2
    have eN : Hid (addN n ss t = n) := HN'.out.trans (if_neg hno)
    have eL : Hid (addL n ss t = ss) := HL'.out.trans (if_neg hno)
    clear hno
    refine (HRR.out _ hS.out.bel).mono ?_
    rintro e w4 ⟨rfl, b4⟩
    have S4 : Hid (AddS W2 X n v ss w4) := hS.out.below b4
    obtain ⟨k0, k1, k2, k3, f2, f3⟩ := HK.out w4 S4.out.bel
    obtain ⟨x0, x1, _, _⟩ := S4.out.cells
    obtain ⟨p', c', rfl, _, _⟩ := ownS_form S4.out.own
    go_wp2_with fail
    refine bodyPost_ret (v := .agg #[.int .i64 n, .slice p' ss.length c']) (by simp [results, Tryd.results36, go_sem, k2, k3]) rfl ?_
    exact ⟨_, by rw [eN.out], by rw [eL.out]; exact HF.out w4 _ ss _ _ S4.out.own S4.out.bel⟩
  have hn6 : decide (1000000 ≤ n) = false := decide_eq_false (by omega)
  by_cases c3 : t.size ≤ 100
  case neg =>
    have ht6 : decide (100 < (t.size : Int)) = true := decide_eq_true (by omega)
    rw [c1] at HRR
    have hno : ¬ addOk n ss t := fun h => c3 h.2.2
    clear c1
    have eN : Hid (addN n ss t = n) := HN'.out.trans (if_neg hno)
    have eL : Hid (addL n ss t = ss) := HL'.out.trans (if_neg hno)
    clear hno
    refine (HRR.out _ hS.out.bel).mono ?_
    rintro e w4 ⟨rfl, b4⟩
    have S4 : Hid (AddS W2 X n v ss w4) := hS.out.below b4
    obtain ⟨k0, k1, k2, k3, f2, f3⟩ := HK.out w4 S4.out.bel
    obtain ⟨x0, x1, _, _⟩ := S4.out.cells
    obtain ⟨p', c', rfl, _, _⟩ := ownS_form S4.out.own
    go_wp2_with fail
    refine bodyPost_ret (v := .agg #[.int .i64 n, .slice p' ss.length c']) (by simp [results, Tryd.results36, go_sem, k2, k3]) rfl ?_
    exact ⟨_, by rw [eN.out], by rw [eL.out]; exact HF.out w4 _ ss _ _ S4.out.own S4.out.bel⟩
  have ht6 : decide (100 < (t.size : Int)) = false := decide_eq_false (by omega)
  have hok : addOk n ss t := ⟨c1, c2, c3⟩
  have eN : Hid (addN n ss t = n + 1) := HN'.out.trans (if_pos hok)
  have eL : Hid (addL n ss t = carry n.toNat ss (leafB t)) := HL'.out.trans (if_pos hok)
  obtain ⟨d1, d2, d3, d4⟩ := rngB_of c1
  rw [c1] at HRR
  have HX : Hid (∀ x ∈ ss, x.size = 32) := wideB_all d4
  have HLf := fun w' => specL03Leaf_any t w' (by omega)
  have HZ : Hid ((leafB t).size = 32) := leafB_size t
  obtain ⟨I, hI⟩ := Int.eq_ofNat_of_zero_le d1
  have HI : Hid (n = (I : Int)) := hI
  have HI6 : Hid (I < 1000000) := by show _ < _; omega
  have HCA : Hid (carry n.toNat ss (leafB t) = carry I (ss.take ss.length) (leafB t)) := by show _ = _; rw [List.take_length, hI, Int.toNat_natCast]
  have HON : Hid (ss.length = onesN I) := by show _ = _; rw [d3, hI, Int.toNat_natCast]
  rw [hI] at HRR HK hS k0 hn6 ⊢
  clear hok d1 d2 d3 d4 c1 c2 hI HN' HL' k1 k2 k3 f2 f3 k0
  generalize leafB t = F at *
  obtain ⟨i0, hi, hz0, hz1, hz2⟩ := info_parts infoStr
  have hn7 : decide (1000000 ≤ I) = false := decide_eq_false (by have := HI6.out; omega)
  refine (HRR.out _ hS.out.bel).mono ?_
  rintro e w4 ⟨rfl, b4⟩
  have S4 : Hid (AddS W2 X (I : Int) v ss w4) := hS.out.below b4
  obtain ⟨k0, k1, k2, k3, f2, f3⟩ := HK.out w4 S4.out.bel
  go_wp2_with fail
  refine (HLf _).mono ?_
  rintro e w5 ⟨rfl, b5⟩
  have S5 : Hid (AddS W2 X (I : Int) v (ss.take ss.length) w5) := by
    show AddS _ _ _ _ _ _
    rw [List.take_length]; exact S4.out.below b5
  clear k0 k1 k2 k3 f2 f3
  obtain ⟨k0, k1, k2, k3, f2, f3⟩ := HK.out w5 S5.out.bel
  clear b4 b5 S4 hS
  go_wp2_with fail
  clear k0 k1 k2 k3 f2 f3 hn6 hn7
  go_loopw [7, 6] (fun vs vh wr => ∃ (m k : Nat) (h : ByteArray) (v' : Value), vs = .int .i64 m ∧ vh = .string h ∧ k ≤ ss.length ∧ m ≤ 1000000 ∧ Hid (k = onesN m) ∧ Hid (h.size = 32) ∧ Hid (carry n.toNat ss F = carry m (ss.take k) h) ∧ Hid (AddS W2 X (I : Int) v' (ss.take k) wr)) (fun vs _ _ => (intOf vs).toNat)
  case atStart => exact ⟨I, ss.length, F, v, rfl, rfl, by omega, by have := HI6.out; omega, HON, HZ, HCA, S5⟩
  case round =>
    clear S5 HCA HON HZ
    obtain ⟨m, k, h, v', rfl, rfl, hk, hm, hon, hz, hca, hS⟩ := hrel
    obtain ⟨k0, k1, k2, k3, f2, f3⟩ := HK.out wr hS.out.bel
    obtain ⟨x0, x1, y0, y1⟩ := hS.out.cells
    have hlk : (ss.take k).length = k := by simp; omega
    have HLK : Hid ((ss.take k).length = k) := hlk
    clear hlk
    by_cases ho : m % 2 = 1
    · have e1 : ((m : Int) % 2 == 1) = true := by simp; omega
      have hk1 : 0 < k := by rw [hon.out, onesN_odd ho]; omega
      obtain ⟨k', rfl⟩ : ∃ k', k = k' + 1 := ⟨k - 1, by omega⟩
      have ho1 : wr.ownsRow W2.heap.size 9 1 v' (k' + 1) (strRow (ss.take (k' + 1))) := by have := hS.out.own; rwa [HLK.out] at this
      obtain ⟨g, cp, rfl, _, _⟩ := ho1.form hk1
      obtain ⟨ho2, hcp, hc⟩ := ownS_pop ho1 hk
      have hlk' : (ss.take k').length = k' := by simp; omega
      have HO2 : Hid (wr.ownsRow W2.heap.size 9 1 (.slice (some ⟨g, 0, none⟩) k' cp) (ss.take k').length (strRow (ss.take k'))) := by show World.ownsRow _ _ _ _ _ _ _; rw [hlk']; exact ho2
      have HN2 : Hid (k' = onesN (m / 2)) := by show _ = _; have := hon.out; rw [onesN_odd ho] at this; omega
      have hq := HX.out (ss[k']'(by omega)) (List.getElem_mem _)
      have HC2 : Hid (carry n.toNat ss F = carry (m / 2) (ss.take k') (nodeB (ss[k']'(by omega)) h)) := by show _ = _; rw [hca.out, carry_take ho ss k' hk]
      have HZ2 : Hid ((nodeB (ss[k']'(by omega)) h).size = 32) := nodeB_size _ _
      have hnd := specL03Node_any (ss[k']'(by omega)) h wr (by omega) (by have := hz.out; omega)
      generalize ss[k']'_ = q at *
      generalize nodeB q h = N at *
      clear ho2 hca hon ho1 HLK hlk'
      have j1 : ((k' + 1 : Nat) : Int) - 1 = k' := by omega
      have j2 : (k' : Int) < ((k' + 1 : Nat) : Int) := by omega
      have j3 : (k' : Int) ≤ cp := by omega
      have j4 : ¬ cp = 0 := by omega
      go_wp2_with fail
      refine hnd.mono ?_
      rintro e w6 ⟨rfl, b6⟩
      have S6 : Hid (AddS W2 X (I : Int) _ (ss.take (k' + 1)) w6) := hS.out.below b6
      have S7 : Hid (AddS W2 X (I : Int) (.slice (some ⟨g, 0, none⟩) k' cp) (ss.take k') (w6.setCell ⟨X, 1, none⟩ (.slice (some ⟨g, 0, none⟩) k' cp))) := S6.out.setV (ownS_below HO2.out b6)
      clear b6 k0 k1 k2 k3 f2 f3 x0 x1 y0 y1 hc
      obtain ⟨x0, x1, y0, y1⟩ := S6.out.cells
      go_wp2_with fail
      go_roundw
      case rel => exact ⟨m / 2, k', N, _, by go_num, rfl, by omega, by omega, HN2, HZ2, HC2, S7⟩
      case measure => simp [intOf]; omega
    · have e1 : ((m : Int) % 2 == 1) = false := by simp; omega
      have HC2 : Hid (carry n.toNat ss F = ss.take k ++ [h]) := by show _ = _; rw [hca.out, carry_even ho]
      have ho1 : Hid (wr.ownsRow W2.heap.size 9 1 v' k (strRow (ss.take k))) := by have := hS.out.own; rwa [HLK.out] at this
      have hbs := hS.out.bel.size
      have HR1 : Hid ((ss.take k ++ [h]).length = k + 1) := by show _ = _; rw [List.length_append, HLK.out]; rfl
      have HR2 : Hid (strRow (ss.take k ++ [h]) = strRow (ss.take k) ++ [.string h]) := by show _ = _; simp [strRow]
      have q7 : IntKind.i64.wrap ((I : Int) + 1) = (I : Int) + 1 := by have := HI6.out; rw [IntKind.wrap_i64]; omega
      have q8 : (I : Int) ≤ 1000000 := by have := HI6.out; omega
      clear hca hon
      go_wp2_with (at_builtin; refine wpList_append_lies _ rfl _ _ 41 rfl W2.heap.size 9 i0 (.string ByteArray.empty) 1 16 Tryd.underlying41 hi hz0 hz1 hz2 rfl (by omega) _ k (strRow (ss.take k)) rfl (ho1.out.alloc _) ⟨wr.heap.size, 0, none⟩ 1 1 [.string h] rfl rfl (World.news_of_block (cs := #[.string h]) (t := 9) (fr := (0, 0)) (MapKept.heap_alloc wr _).1) (by simp [Value.oneCell']) (by omega) (by unfold maxLen; omega) (by omega) (by simp; omega) (wr.heap.size + 1) (by simp) ?_; intro g2 cap2 w6 hown6 hgrow hat hltg; obtain ⟨S7, c7, f7⟩ := hS.out.append (l2 := ss.take k ++ [h]) _ hgrow (by rw [HR1.out, HR2.out]; exact hown6); have S8 := S7.setN (b := (I : Int) + 1); obtain ⟨a0, a1, a2, a3, b2, b3⟩ := HK.out _ S7.bel; obtain ⟨s0, s1, s2, s3⟩ := S7.cells; obtain ⟨t0, t1, t2, t3⟩ := S8.cells; obtain ⟨r0, r1, r2, r3, u2, u3⟩ := HK.out _ S8.bel; have HS8 : Hid (AddS W2 X ((I : Int) + 1) (.slice (some ⟨g2, 0, none⟩) (k + 1) cap2) (ss.take k ++ [h]) ((w6.setCell ⟨X, 1, none⟩ (.slice (some ⟨g2, 0, none⟩) (k + 1) cap2)).setCell ⟨X, 0, none⟩ (.int .i64 ((I : Int) + 1)))) := S8; clear S7 S8 hown6)
      refine bodyPost_ret (v := .agg #[.int .i64 ((I : Int) + 1), .slice (some ⟨g2, 0, none⟩) (k + 1) cap2]) (by simp [results, Tryd.results36, go_sem, r2, r3]) rfl ?_
      refine ⟨_, by rw [eN.out, HI.out], ?_⟩
      rw [eL.out, HC2.out]
      exact HF.out _ _ _ _ _ HS8.out.own HS8.out.bel
end Go.Proofs.YtclpccnppmbpcaaDoor
