/-
  The place of a row's leaf and of a field's note, as the program finds them: ranges over the leaves.
  Conditions: the slice's cells hold those texts; errors.errorType is laid.
-/
import Derived.Test.YtnahmddbmmnilaaGreatDoorRows
import Derived.Test.YtnahmddbmmnilaaGreatDoorBytesDigMath
import Derived.Test.YtnahmddbmmnilaaGreatDoorSlASlBBxKOwnS
import Derived.Test.YtnahmddbmmnilaaGreatDoorLtSAsDAs2CodeOfTimeITurnIWholeR
import Derived.Test.YtnahmddbmmnilaaGreatDoorGetValGetTxtNumMathFldRdNumFromTmbMath
import Derived.Test.YtnahmddbmmnilaaGreatDoorLgMathLgAtKShwK
import Derived.Test.YtnahmddbmmnilaaGreatDoorLgAnsLgRtLtMathLawLtFldIsOwnBTurn2
import Derived.Test.YtnahmddbmmnilaaGreatDoorRngXScopesReadBits
import Derived.Test.YtnahmddbmmnilaaGreatDoorAllI
namespace Go.Proofs.YtnahmddbmmnilaaGreatDoor
open Go.RowKit Go.Lib Go.Shelf
set_option linter.unusedVariables false
set_option maxRecDepth 100000
attribute [local go_sem] Oper.semAt_some

theorem bxs_own {β : Type} (g : Nat) (T : TypeId) (f : β → Array Value) : Own (fun s W => Bxs W g T (f s)) := fun s X Y row hs hg hrow =>
  (grownBy_keeps_cells hg hrow hs rfl).trans hs
theorem Turned.bxs {k l : Nat} {W B : World} (h : Turned k l W B) {g : Nat} {T : TypeId} {cs : Array Value} (hg : Bxs W g T cs) : Bxs B g T cs := h.cells hg
/-- The leaf at k is the one that is looked for. -/
def plHit (lv : List ByteArray) (row : Int) (k : Nat) : Bool := isRl (lv.getD k ByteArray.empty) && ((aheadN lv k : Int) == row)
theorem pl_step (lv : List ByteArray) (row : Int) (k : Nat) (h : k < lv.length) : plFrom row (aheadN lv k) k (lv.drop k) = if plHit lv row k = true then (k : Int) else plFrom row (aheadN lv (k + 1)) (k + 1) (lv.drop (k + 1)) := by
  rw [List.drop_eq_getElem_cons h, plFrom, ahead_succ lv k h]
  unfold plHit
  rw [List.getD_eq_getElem?_getD, List.getElem?_eq_getElem h, Option.getD_some]
  cases hi : isRl lv[k] with
  | false => simp
  | true =>
    by_cases hr : (aheadN lv k : Int) = row
    · simp [hr]
    · simp [hr]
theorem pl_leaf (lv : List ByteArray) (row : Int) (k : Nat) (h : k ≤ 1048576) : ∃ (t : ByteArray) (C n1 n2 n3 n4 : Int) (A : Nat), leafV lv k = #[.int .i64 (k : Int), .agg #[.string t, .int .i64 C, .int .i64 n1, .int .i64 n2, .int .i64 n3, .int .i64 n4, .int .i64 (A : Int)]] ∧ A ≤ 1048576 ∧ plHit lv row k = ((C == 1) && ((A : Int) == row)) := by
  refine ⟨lv.getD k ByteArray.empty, _, _, _, _, _, _, rfl, Nat.le_trans (ahead_le lv k) h, ?_⟩
  unfold plHit
  congr 1
  rw [Bool.eq_iff_iff, beq_iff_eq]
  exact (lk_iff1 _).symm
def PlI (w : World) (lv : List ByteArray) (row : Int) (k : Nat) (W : World) : Prop :=
  (Bxs W w.heap.size 2 #[.int .i64 row] ∧ Bxs W (w.heap.size + 1) 2 #[.int .i64 0]) ∧ plB lv row = plFrom row (aheadN lv k) k (lv.drop k)
def PlX (w : World) (lv : List ByteArray) (row : Int) (k : Nat) (W : World) : Prop := Bxs W (w.heap.size + 1) 2 #[.int .i64 (plB lv row)]
set_option maxHeartbeats 4000000 in
theorem placeOf_any (p : Option Addr) (cap : Nat) (lv : List ByteArray) (row : Int) (w : World) (hL : TxtAt w p lv) (hl : lv.length ≤ 1048576) (hc : lv.length ≤ cap) (hz : TxtsLe lv) (hg : Laid w) :
    Calls Tryz.prog 98 #[.slice p lv.length cap, .int .i64 row] w fun e w' => e = .returned (.int .i64 (plB lv row)) ∧ Below w.heap.size w w' := by
  obtain ⟨W2, hW2⟩ : ∃ W2, W2 = (w.alloc (.cells #[.int .i64 row] 2)).alloc (.cells #[.int .i64 0] 2) := ⟨_, rfl⟩
  have HW2 : Hid (W2 = (w.alloc (.cells #[.int .i64 row] 2)).alloc (.cells #[.int .i64 0] 2)) := hW2
  have hs1 : (w.alloc (.cells #[.int .i64 row] 2)).heap.size = w.heap.size + 1 := by simp
  have HS2 : Hid (W2.heap.size = w.heap.size + 2) := by rw [hW2]; show _ = _; simp
  have K0 : Hid (Bxs W2 w.heap.size 2 #[.int .i64 row]) := by rw [hW2]; exact (Bxs.new _ _ _).alloc _
  have K1 : Hid (Bxs W2 (w.heap.size + 1) 2 #[.int .i64 0]) := by rw [hW2, ← hs1]; exact Bxs.new _ _ _
  have B2 : Hid (Below w.heap.size w W2) := by rw [hW2]; exact ((Below.refl _ _).alloc (Nat.le_refl _) _).alloc (by rw [hs1]; omega) _
  obtain ⟨W3, hW3⟩ : ∃ W3, W3 = W2.alloc (.cells #[.slice p lv.length cap] 101) := ⟨_, rfl⟩
  have HW3 : Hid (W3 = W2.alloc (.cells #[.slice p lv.length cap] 101)) := hW3
  have K2 : Hid (Bxs W3 W2.heap.size 101 #[.slice p lv.length cap]) := by rw [hW3]; exact Bxs.new _ _ _
  have K03 : Hid (Bxs W3 w.heap.size 2 #[.int .i64 row]) := by rw [hW3]; exact K0.out.alloc _
  have K13 : Hid (Bxs W3 (w.heap.size + 1) 2 #[.int .i64 0]) := by rw [hW3]; exact K1.out.alloc _
  have HS3 : Hid (W3.heap.size = w.heap.size + 3) := by rw [hW3]; show _ = _; have := HS2.out; simp; omega
  have B3 : Hid (Below w.heap.size w W3) := by rw [hW3]; exact B2.out.alloc B2.out.size _
  have HQ : Hid (∀ n, 1 ≤ n → SeqX Fence.wide n Tryz.prog 220 #[.pointer (some ⟨W2.heap.size, 0, none⟩)] (leafV lv) (Below w.heap.size) (lvNx lv) (fun ys => ys.length = lv.length) (fun _ => True) W3) := fun n hn => all1_stops n W2.heap.size hn p cap lv w W3 hL hl hc hz hg B3.out (K2.out.cell 0)
  have HZ : Hid (plB lv row = plFrom row (aheadN lv 0) 0 (lv.drop 0)) := rfl
  clear hW2 hs1 hW3 hL hz hg
  refine (callsIn_wide (n := 3)).1 ?_
  refine callsIn_of_wp_marks Tryz.func98 rfl trivial ?_ rfl
  simp only [Tryz.ntmps98, List.size_toArray, List.length_cons, List.length_nil, Nat.reduceAdd, Nat.reduceSub, Array.replicate_succ, Array.replicate_zero, List.push_toArray, List.append_toArray, List.nil_append, List.cons_append]
  gi_wp2
  refine ⟨trivial, ?_⟩
  rw [← HW2.out]
  refine (callsIn_wide.2 (allS_any p lv.length cap W2)).mono ?_
  rintro e w1 ⟨rfl, hw1⟩
  rw [← HW3.out] at hw1
  subst hw1
  gi_wp2
  refine rangeX (n := 3) rfl (by omega) (gf := 220) (lb := #[.pointer (some ⟨W2.heap.size, 0, none⟩)]) rfl trivial (enters_of Tryz.func220 (by kernel_rfl) rfl) (HQ.out 2 (by omega)) belowK_t (belowK_b B3.out.size) (Below.refl _ _) (fun _ => rfl)
    (fun pre W => PlI w lv row pre.length W ∧ Below w.heap.size w W) (fun c pre W => (c = .ret ∧ PlX w lv row pre.length W) ∧ Below w.heap.size w W) ?hI ?hIx ⟨⟨⟨K03.out, K13.out⟩, HZ.out⟩, B3.out⟩ ?round ?done ?stop
  case hI => exact OwnFrom.and (Own.from (fun s A B r hs hg hr => ⟨⟨bxs_own _ _ (fun _ => _) s A B r hs.1.1 hg hr, bxs_own _ _ (fun _ => _) s A B r hs.1.2 hg hr⟩, hs.2⟩) _) (ownFrom_below (Nat.le_refl _) B3.out.size)
  case hIx => exact fun c => OwnFrom.and (Own.from (fun s A B r hs hg hr => ⟨hs.1, bxs_own _ _ (fun _ => _) s A B r hs.2 hg hr⟩) _) (ownFrom_below (Nat.le_refl _) B3.out.size)
  case round =>
    rintro l pre x W ⟨hx, hxl⟩ ⟨⟨⟨hr0, hr1⟩, hpl⟩, hBW⟩ hlw
    rw [← hx] at hpl
    have HST : Hid (plB lv row = if plHit lv row x = true then (x : Int) else plFrom row (aheadN lv (x + 1)) (x + 1) (lv.drop (x + 1))) := hpl.trans (pl_step lv row x hxl)
    have HPL : Hid ((pre ++ [x]).length = x + 1) := by show _ = _; simp [hx]
    obtain ⟨t, C, n1, n2, n3, n4, A, hV, hAl, hH⟩ := pl_leaf lv row x (by omega)
    have HH : Hid (plHit lv row x = ((C == 1) && ((A : Int) == row))) := hH
    rw [hV]
    have hkk : x ≤ 1048576 := by omega
    clear hV hpl HZ HQ hx hH
    gi_wp2
    refine ⟨(KeepsOthers.alloc _ _).from _, (Below.refl _ _).alloc hBW.size _, fun B hT => ?_⟩
    have KL : Bxs B W.heap.size 182 #[.string t, .int .i64 C, .int .i64 n1, .int .i64 n2, .int .i64 n3, .int .i64 n4, .int .i64 (A : Int)] := hT.bxs (Bxs.new _ _ _)
    have KR : Bxs B w.heap.size 2 #[.int .i64 row] := hT.bxs (hr0.alloc _)
    have KO : Bxs B (w.heap.size + 1) 2 #[.int .i64 0] := hT.bxs (hr1.alloc _)
    have HBB : Hid (Below w.heap.size w B) := (hBW.alloc hBW.size _).trans (hT.below (by rw [HS3.out]; omega))
    have l1 := KL.cell 1
    have l6 := KL.cell 6
    have r0 := KR.cell 0
    have o0 := KO.cell 0
    have of := KO.fr 0
    have HKR : Hid (Bxs B w.heap.size 2 #[.int .i64 row]) := KR
    have HKO : Hid (Bxs B (w.heap.size + 1) 2 #[.int .i64 0]) := KO
    clear KL KR KO hr0 hr1 hBW hT
    cases hC : (C == 1) with
    | true =>
      rw [hC, Bool.true_and] at HH
      cases hr : ((A : Int) == row) with
      | true =>
        rw [hr] at HH
        rw [HH.out, if_pos rfl] at HST
        clear HH
        gi_wp2
        refine ⟨(KeepsOthers.setCell _ _ _).from _, ⟨rfl, ?_⟩, HBB.out.setCell (p := ⟨w.heap.size + 1, 0, none⟩) (by simp) _⟩
        unfold PlX
        rw [HST.out]
        exact HKO.out.set 0 _
      | false =>
        rw [hr] at HH
        rw [HH.out, if_neg Bool.false_ne_true] at HST
        clear HH
        gi_wp2
        exact ⟨KeepsFrom.refl _ _, Below.refl _ _, ⟨⟨HKR.out, HKO.out⟩, by rw [HPL.out]; exact HST.out⟩, HBB.out⟩
    | false =>
      rw [hC, Bool.false_and] at HH
      rw [HH.out, if_neg Bool.false_ne_true] at HST
      clear HH
      gi_wp2
      exact ⟨KeepsFrom.refl _ _, Below.refl _ _, ⟨⟨HKR.out, HKO.out⟩, by rw [HPL.out]; exact HST.out⟩, HBB.out⟩
  case done =>
    rintro D ys W hD hys ⟨⟨⟨hr0, hr1⟩, hpl⟩, hB⟩ hK
    have HE : Hid (plB lv row = -1) := by
      show _ = _
      rw [hpl, hys, List.drop_length]; rfl
    have o0 := hr1.cell 0
    have of := hr1.fr 0
    have hD2 : w.heap.size ≤ D := Nat.le_trans B3.out.size hD
    clear hpl hys HZ HQ
    gi_wp2
    have hK' := (KeepsOthers.setCell W ⟨w.heap.size + 1, 0, none⟩ (.int .i64 (-1))).same D _ hK rfl
    refine ⟨by simp, .inl ⟨_, _, rfl, run_takeDeferred hK', ?_⟩⟩
    have hc5 := cell_kept ((hr1.set 0 (.int .i64 (-1))).cell 0) (grownBy_putObj' _ D (.deferred none)) (fun r e => by cases e; exact ⟨_, hK', rfl⟩)
    refine ⟨.int .i64 (-1), ?_, by rw [HE.out], (hB.setCell (p := ⟨w.heap.size + 1, 0, none⟩) (by simp) _).trans (belowK_b (w := w) (Nat.le_refl _) _ D _ _ hD2 hK' rfl rfl)⟩
    simp [results, Tryz.f98, go_sem, hc5]
  case stop =>
    rintro D c pre W hD - ⟨⟨rfl, hcr⟩, hB⟩ hK
    have hD2 : w.heap.size ≤ D := Nat.le_trans B3.out.size hD
    gi_wp2
    refine ⟨by simp, .inl ⟨_, _, rfl, run_takeDeferred hK, ?_⟩⟩
    have hc5 := cell_kept (Bxs.cell hcr 0) (grownBy_putObj' _ D (.deferred none)) (fun r e => by cases e; exact ⟨_, hK, rfl⟩)
    refine ⟨.int .i64 (plB lv row), ?_, rfl, hB.trans (belowK_b (w := w) (Nat.le_refl _) W D _ _ hD2 hK rfl rfl)⟩
    simp [results, Tryz.f98, go_sem, hc5]

/-! ### The note of a field -/
theorem tb_step (lv : List ByteArray) (r f : Int) (k : Nat) (h : k < lv.length) : tbFrom r f k (lv.drop k) = if tmHit r f (lv.getD k ByteArray.empty) = true then (k : Int) else tbFrom r f (k + 1) (lv.drop (k + 1)) := by
  rw [List.drop_eq_getElem_cons h, tbFrom, List.getD_eq_getElem?_getD, List.getElem?_eq_getElem h, Option.getD_some]
theorem tb_leaf (lv : List ByteArray) (r f : Int) (k : Nat) (h : k ≤ 1048576) : ∃ (t : ByteArray) (C n1 n2 n3 n4 : Int) (A : Nat), leafV lv k = #[.int .i64 (k : Int), .agg #[.string t, .int .i64 C, .int .i64 n1, .int .i64 n2, .int .i64 n3, .int .i64 n4, .int .i64 (A : Int)]] ∧ A ≤ 1048576 ∧ tmHit r f (lv.getD k ByteArray.empty) = ((C == 2) && ((n1 == r) && (n2 == f))) := by
  refine ⟨lv.getD k ByteArray.empty, _, _, _, _, _, _, rfl, Nat.le_trans (ahead_le lv k) h, ?_⟩
  unfold tmHit
  rw [Bool.eq_iff_iff]
  simp only [Bool.and_eq_true, decide_eq_true_iff, beq_iff_eq]
  rw [lk_iff2]
def TbI (w : World) (lv : List ByteArray) (r f : Int) (k : Nat) (W : World) : Prop :=
  (Bxs W w.heap.size 2 #[.int .i64 r] ∧ Bxs W (w.heap.size + 1) 2 #[.int .i64 f] ∧ Bxs W (w.heap.size + 2) 2 #[.int .i64 0]) ∧ tbAt lv r f = tbFrom r f k (lv.drop k)
def TbX (w : World) (lv : List ByteArray) (r f : Int) (k : Nat) (W : World) : Prop := Bxs W (w.heap.size + 2) 2 #[.int .i64 (tbAt lv r f)]
set_option maxHeartbeats 4000000 in
theorem tombOf_any (p : Option Addr) (cap : Nat) (lv : List ByteArray) (r f : Int) (w : World) (hL : TxtAt w p lv) (hl : lv.length ≤ 1048576) (hc : lv.length ≤ cap) (hz : TxtsLe lv) (hg : Laid w) :
    Calls Tryz.prog 100 #[.slice p lv.length cap, .int .i64 r, .int .i64 f] w fun e w' => e = .returned (.int .i64 (tbAt lv r f)) ∧ Below w.heap.size w w' := by
  obtain ⟨W1, hW1⟩ : ∃ W1, W1 = w.alloc (.cells #[.int .i64 r] 2) := ⟨_, rfl⟩
  have hs1 : W1.heap.size = w.heap.size + 1 := by rw [hW1]; simp
  obtain ⟨W2a, hW2a⟩ : ∃ W2a, W2a = W1.alloc (.cells #[.int .i64 f] 2) := ⟨_, rfl⟩
  have hs2 : W2a.heap.size = w.heap.size + 2 := by rw [hW2a]; simp; omega
  obtain ⟨W2, hW2⟩ : ∃ W2, W2 = W2a.alloc (.cells #[.int .i64 0] 2) := ⟨_, rfl⟩
  have HW2 : Hid (W2 = ((w.alloc (.cells #[.int .i64 r] 2)).alloc (.cells #[.int .i64 f] 2)).alloc (.cells #[.int .i64 0] 2)) := by show _ = _; rw [hW2, hW2a, hW1]
  have HS2 : Hid (W2.heap.size = w.heap.size + 3) := by rw [hW2]; show _ = _; simp; omega
  have Ka : Bxs W1 w.heap.size 2 #[.int .i64 r] := by rw [hW1]; exact Bxs.new _ _ _
  have Kb : Bxs W2a (w.heap.size + 1) 2 #[.int .i64 f] := by rw [hW2a, ← hs1]; exact Bxs.new _ _ _
  have Ka2 : Bxs W2a w.heap.size 2 #[.int .i64 r] := by rw [hW2a]; exact Ka.alloc _
  have K0 : Hid (Bxs W2 w.heap.size 2 #[.int .i64 r]) := by rw [hW2]; exact Ka2.alloc _
  have K1 : Hid (Bxs W2 (w.heap.size + 1) 2 #[.int .i64 f]) := by rw [hW2]; exact Kb.alloc _
  have K1b : Hid (Bxs W2 (w.heap.size + 2) 2 #[.int .i64 0]) := by rw [hW2, ← hs2]; exact Bxs.new _ _ _
  have B2 : Hid (Below w.heap.size w W2) := by rw [hW2, hW2a, hW1]; exact (((Below.refl _ _).alloc (Nat.le_refl _) _).alloc (by simp) _).alloc (by simp; omega) _
  clear Ka Kb Ka2
  obtain ⟨W3, hW3⟩ : ∃ W3, W3 = W2.alloc (.cells #[.slice p lv.length cap] 101) := ⟨_, rfl⟩
  have HW3 : Hid (W3 = W2.alloc (.cells #[.slice p lv.length cap] 101)) := hW3
  have K2 : Hid (Bxs W3 W2.heap.size 101 #[.slice p lv.length cap]) := by rw [hW3]; exact Bxs.new _ _ _
  have K03 : Hid (Bxs W3 w.heap.size 2 #[.int .i64 r]) := by rw [hW3]; exact K0.out.alloc _
  have K13 : Hid (Bxs W3 (w.heap.size + 1) 2 #[.int .i64 f]) := by rw [hW3]; exact K1.out.alloc _
  have K23 : Hid (Bxs W3 (w.heap.size + 2) 2 #[.int .i64 0]) := by rw [hW3]; exact K1b.out.alloc _
  have HS3 : Hid (W3.heap.size = w.heap.size + 4) := by rw [hW3]; show _ = _; have := HS2.out; simp; omega
  have B3 : Hid (Below w.heap.size w W3) := by rw [hW3]; exact B2.out.alloc B2.out.size _
  have HQ : Hid (∀ n, 1 ≤ n → SeqX Fence.wide n Tryz.prog 220 #[.pointer (some ⟨W2.heap.size, 0, none⟩)] (leafV lv) (Below w.heap.size) (lvNx lv) (fun ys => ys.length = lv.length) (fun _ => True) W3) := fun n hn => all1_stops n W2.heap.size hn p cap lv w W3 hL hl hc hz hg B3.out (K2.out.cell 0)
  have HZ : Hid (tbAt lv r f = tbFrom r f 0 (lv.drop 0)) := rfl
  clear hW2 hs1 hs2 hW1 hW2a hW3 hL hz hg
  refine (callsIn_wide (n := 3)).1 ?_
  refine callsIn_of_wp_marks Tryz.func100 rfl trivial ?_ rfl
  simp only [Tryz.ntmps100, List.size_toArray, List.length_cons, List.length_nil, Nat.reduceAdd, Nat.reduceSub, Array.replicate_succ, Array.replicate_zero, List.push_toArray, List.append_toArray, List.nil_append, List.cons_append]
  gi_wp2
  refine ⟨trivial, ?_⟩
  rw [← HW2.out]
  refine (callsIn_wide.2 (allS_any p lv.length cap W2)).mono ?_
  rintro e w1 ⟨rfl, hw1⟩
  rw [← HW3.out] at hw1
  subst hw1
  gi_wp2
  refine rangeX (n := 3) rfl (by omega) (gf := 220) (lb := #[.pointer (some ⟨W2.heap.size, 0, none⟩)]) rfl trivial (enters_of Tryz.func220 (by kernel_rfl) rfl) (HQ.out 2 (by omega)) belowK_t (belowK_b B3.out.size) (Below.refl _ _) (fun _ => rfl)
    (fun pre W => TbI w lv r f pre.length W ∧ Below w.heap.size w W) (fun c pre W => (c = .ret ∧ TbX w lv r f pre.length W) ∧ Below w.heap.size w W) ?hI ?hIx ⟨⟨⟨K03.out, K13.out, K23.out⟩, HZ.out⟩, B3.out⟩ ?round ?done ?stop
  case hI => exact OwnFrom.and (Own.from (fun s A B rw hs hg hr => ⟨⟨bxs_own _ _ (fun _ => _) s A B rw hs.1.1 hg hr, bxs_own _ _ (fun _ => _) s A B rw hs.1.2.1 hg hr, bxs_own _ _ (fun _ => _) s A B rw hs.1.2.2 hg hr⟩, hs.2⟩) _) (ownFrom_below (Nat.le_refl _) B3.out.size)
  case hIx => exact fun c => OwnFrom.and (Own.from (fun s A B rw hs hg hr => ⟨hs.1, bxs_own _ _ (fun _ => _) s A B rw hs.2 hg hr⟩) _) (ownFrom_below (Nat.le_refl _) B3.out.size)
  case round =>
    rintro l pre x W ⟨hx, hxl⟩ ⟨⟨⟨hr0, hrf, hr1⟩, hpl⟩, hBW⟩ hlw
    rw [← hx] at hpl
    have HST : Hid (tbAt lv r f = if tmHit r f (lv.getD x ByteArray.empty) = true then (x : Int) else tbFrom r f (x + 1) (lv.drop (x + 1))) := hpl.trans (tb_step lv r f x hxl)
    have HPL : Hid ((pre ++ [x]).length = x + 1) := by show _ = _; simp [hx]
    obtain ⟨t, C, n1, n2, n3, n4, A, hV, hAl, hH⟩ := tb_leaf lv r f x (by omega)
    have HH : Hid (tmHit r f (lv.getD x ByteArray.empty) = ((C == 2) && ((n1 == r) && (n2 == f)))) := hH
    rw [hV]
    have hkk : x ≤ 1048576 := by omega
    clear hV hpl HZ HQ hx hH
    gi_wp2
    refine ⟨(KeepsOthers.alloc _ _).from _, (Below.refl _ _).alloc hBW.size _, fun B hT => ?_⟩
    have KL : Bxs B W.heap.size 182 #[.string t, .int .i64 C, .int .i64 n1, .int .i64 n2, .int .i64 n3, .int .i64 n4, .int .i64 (A : Int)] := hT.bxs (Bxs.new _ _ _)
    have KR : Bxs B w.heap.size 2 #[.int .i64 r] := hT.bxs (hr0.alloc _)
    have KF : Bxs B (w.heap.size + 1) 2 #[.int .i64 f] := hT.bxs (hrf.alloc _)
    have KO : Bxs B (w.heap.size + 2) 2 #[.int .i64 0] := hT.bxs (hr1.alloc _)
    have HBB : Hid (Below w.heap.size w B) := (hBW.alloc hBW.size _).trans (hT.below (by rw [HS3.out]; omega))
    have l1 := KL.cell 1
    have l2 := KL.cell 2
    have l3 := KL.cell 3
    have q0 := KF.cell 0
    have r0 := KR.cell 0
    have o0 := KO.cell 0
    have of := KO.fr 0
    have HKR : Hid (Bxs B w.heap.size 2 #[.int .i64 r]) := KR
    have HKF : Hid (Bxs B (w.heap.size + 1) 2 #[.int .i64 f]) := KF
    have HKO : Hid (Bxs B (w.heap.size + 2) 2 #[.int .i64 0]) := KO
    clear KL KR KF KO hr0 hrf hr1 hBW hT
    have go : Hid (∀ (h : tmHit r f (lv.getD x ByteArray.empty) = false), tbAt lv r f = tbFrom r f (x + 1) (lv.drop (x + 1))) := fun h => by rw [HST.out, h, if_neg Bool.false_ne_true]
    cases hC : (C == 2) with
    | true =>
      rw [hC, Bool.true_and] at HH
      cases hr : (n1 == r) with
      | true =>
        rw [hr, Bool.true_and] at HH
        cases hq : (n2 == f) with
        | true =>
          rw [hq] at HH
          rw [HH.out, if_pos rfl] at HST
          clear HH go
          gi_wp2
          refine ⟨(KeepsOthers.setCell _ _ _).from _, ⟨rfl, ?_⟩, HBB.out.setCell (p := ⟨w.heap.size + 2, 0, none⟩) (by simp) _⟩
          unfold TbX
          rw [HST.out]
          exact HKO.out.set 0 _
        | false =>
          rw [hq] at HH
          have HG := go.out HH.out
          clear HH go HST
          gi_wp2
          exact ⟨KeepsFrom.refl _ _, Below.refl _ _, ⟨⟨HKR.out, HKF.out, HKO.out⟩, by rw [HPL.out]; exact HG⟩, HBB.out⟩
      | false =>
        rw [hr, Bool.false_and] at HH
        have HG := go.out HH.out
        clear HH go HST
        gi_wp2
        exact ⟨KeepsFrom.refl _ _, Below.refl _ _, ⟨⟨HKR.out, HKF.out, HKO.out⟩, by rw [HPL.out]; exact HG⟩, HBB.out⟩
    | false =>
      rw [hC, Bool.false_and] at HH
      have HG := go.out HH.out
      clear HH go HST
      gi_wp2
      exact ⟨KeepsFrom.refl _ _, Below.refl _ _, ⟨⟨HKR.out, HKF.out, HKO.out⟩, by rw [HPL.out]; exact HG⟩, HBB.out⟩
  case done =>
    rintro D ys W hD hys ⟨⟨⟨hr0, hrf, hr1⟩, hpl⟩, hB⟩ hK
    have HE : Hid (tbAt lv r f = -1) := by
      show _ = _
      rw [hpl, hys, List.drop_length]; rfl
    have o0 := hr1.cell 0
    have of := hr1.fr 0
    have hD2 : w.heap.size ≤ D := Nat.le_trans B3.out.size hD
    clear hpl hys HZ HQ
    gi_wp2
    have hK' := (KeepsOthers.setCell W ⟨w.heap.size + 2, 0, none⟩ (.int .i64 (-1))).same D _ hK rfl
    refine ⟨by simp, .inl ⟨_, _, rfl, run_takeDeferred hK', ?_⟩⟩
    have hc5 := cell_kept ((hr1.set 0 (.int .i64 (-1))).cell 0) (grownBy_putObj' _ D (.deferred none)) (fun r e => by cases e; exact ⟨_, hK', rfl⟩)
    refine ⟨.int .i64 (-1), ?_, by rw [HE.out], (hB.setCell (p := ⟨w.heap.size + 2, 0, none⟩) (by simp) _).trans (belowK_b (w := w) (Nat.le_refl _) _ D _ _ hD2 hK' rfl rfl)⟩
    simp [results, Tryz.f100, go_sem, hc5]
  case stop =>
    rintro D c pre W hD - ⟨⟨rfl, hcr⟩, hB⟩ hK
    have hD2 : w.heap.size ≤ D := Nat.le_trans B3.out.size hD
    gi_wp2
    refine ⟨by simp, .inl ⟨_, _, rfl, run_takeDeferred hK, ?_⟩⟩
    have hc5 := cell_kept (Bxs.cell hcr 0) (grownBy_putObj' _ D (.deferred none)) (fun r e => by cases e; exact ⟨_, hK, rfl⟩)
    refine ⟨.int .i64 (tbAt lv r f), ?_, rfl, hB.trans (belowK_b (w := w) (Nat.le_refl _) W D _ _ hD2 hK rfl rfl)⟩
    simp [results, Tryz.f100, go_sem, hc5]
end Go.Proofs.YtnahmddbmmnilaaGreatDoor
