/-
  Parts of one proof, laid as one text: PlaceI, Eq18, ImplGn; what each says stands at its head.
-/
import Derived.Test.YtonleickhincgaaGreatDoorRows
import Derived.Test.YtonleickhincgaaGreatDoorBytesDigMath
import Derived.Test.YtonleickhincgaaGreatDoorTreeMathSlABxKSlBOwnS
import Derived.Test.YtonleickhincgaaGreatDoorAsDAs2CodeOfRngXScopesReadBits
import Derived.Test.YtonleickhincgaaGreatDoorGetValGetTxtNumMathFldRdNumFromTmbMathLgMath
import Derived.Test.YtonleickhincgaaGreatDoorLgAtKLgAnsLgRtAudMathHdMathClaMathHearMathFldGOneKFldBlkRwBlkRowOps
import Derived.Test.YtonleickhincgaaGreatDoorAllI
import Derived.Test.YtonleickhincgaaGreatDoorWholeR
import Derived.Handy
import Derived.DeepKeys
import Derived.Laws.StructEq
import Derived.Laws.Rows
import Derived.Laws.Tables
import Derived.Test.YtonleickhincgaaGreatDoorTimeBPutMathPutNumJoinedPutTextFldMath
import Derived.Test.YtonleickhincgaaGreatDoorImplLgFldC
import Derived.WalkSpells
import Derived.OwnWalk
import Derived.Deep.Cut
import Derived.Deep.CutRange
/-
  The place of a row's leaf and of a field's note, as the program finds them: ranges over the leaves.
  Conditions: the slice's cells hold those texts; errors.errorType is laid.
-/
namespace Go.Proofs.YtonleickhincgaaGreatDoor
open Go.RowKit Go.Lib Go.Shelf
set_option linter.unusedVariables false
set_option maxRecDepth 100000
attribute [local go_sem] Oper.semAt_some

theorem bxs_own {β : Type} (g : Nat) (T : TypeId) (f : β → Array Value) : Own (fun s W => Bxs W g T (f s)) := fun s X Y row hs hg hrow =>
  (grownBy_keeps_cells hg hrow hs rfl).trans hs
theorem Turned.bxs {k l : Nat} {W B : World} (h : Turned k l W B) {g : Nat} {T : TypeId} {cs : Array Value} (hg : Bxs W g T cs) : Bxs B g T cs := h.cells hg
/-- The leaf at k is the one that is looked for. -/
def plHit (lv : List ByteArray) (row : Int) (k : Nat) : Bool := isRl (lv.getD k ByteArray.empty) && ((aheadN lv k : Int) == row)
theorem pl_step (lv : List ByteArray) (row : Int) (k : Nat) (h : k < lv.length) : plFrom row (aheadN lv k) k (lv.drop k) = if plHit lv row k = true then (k : Int) else plFrom row (aheadN lv (k + 1)) (k + 1) (lv.drop (k + 1)) := by
  rw [List.drop_eq_getElem_cons h, plFrom, ahead_succ lv k h]
  unfold plHit
  rw [List.getD_eq_getElem?_getD, List.getElem?_eq_getElem h, Option.getD_some]
  cases hi : isRl lv[k] with
  | false => simp
  | true =>
    by_cases hr : (aheadN lv k : Int) = row
    · simp [hr]
    · simp [hr]
theorem pl_leaf (lv : List ByteArray) (row : Int) (k : Nat) (h : k ≤ 1048576) : ∃ (t : ByteArray) (C n1 n2 n3 n4 : Int) (A : Nat), leafV lv k = #[.int .i64 (k : Int), .agg #[.string t, .int .i64 C, .int .i64 n1, .int .i64 n2, .int .i64 n3, .int .i64 n4, .int .i64 (A : Int)]] ∧ A ≤ 1048576 ∧ plHit lv row k = ((C == 1) && ((A : Int) == row)) := by
  refine ⟨lv.getD k ByteArray.empty, _, _, _, _, _, _, rfl, Nat.le_trans (ahead_le lv k) h, ?_⟩
  unfold plHit
  congr 1
  rw [Bool.eq_iff_iff, beq_iff_eq]
  exact (lk_iff1 _).symm
def PlI (w : World) (lv : List ByteArray) (row : Int) (k : Nat) (W : World) : Prop :=
  (Bxs W w.heap.size 2 #[.int .i64 row] ∧ Bxs W (w.heap.size + 1) 2 #[.int .i64 0]) ∧ plB lv row = plFrom row (aheadN lv k) k (lv.drop k)
def PlX (w : World) (lv : List ByteArray) (row : Int) (k : Nat) (W : World) : Prop := Bxs W (w.heap.size + 1) 2 #[.int .i64 (plB lv row)]
set_option maxHeartbeats 4000000 in
theorem placeOf_any (p : Option Addr) (cap : Nat) (lv : List ByteArray) (row : Int) (w : World) (hL : TxtAt w p lv) (hl : lv.length ≤ 1048576) (hc : lv.length ≤ cap) (hz : TxtsLe lv) (hg : Laid w) :
    Calls Tryz.prog 57 #[.slice p lv.length cap, .int .i64 row] w fun e w' => e = .returned (.int .i64 (plB lv row)) ∧ Below w.heap.size w w' := by
  obtain ⟨W2, hW2⟩ : ∃ W2, W2 = (w.alloc (.cells #[.int .i64 row] 2)).alloc (.cells #[.int .i64 0] 2) := ⟨_, rfl⟩
  have HW2 : Hid (W2 = (w.alloc (.cells #[.int .i64 row] 2)).alloc (.cells #[.int .i64 0] 2)) := hW2
  have hs1 : (w.alloc (.cells #[.int .i64 row] 2)).heap.size = w.heap.size + 1 := by simp
  have HS2 : Hid (W2.heap.size = w.heap.size + 2) := by rw [hW2]; show _ = _; simp
  have K0 : Hid (Bxs W2 w.heap.size 2 #[.int .i64 row]) := by rw [hW2]; exact (Bxs.new _ _ _).alloc _
  have K1 : Hid (Bxs W2 (w.heap.size + 1) 2 #[.int .i64 0]) := by rw [hW2, ← hs1]; exact Bxs.new _ _ _
  have B2 : Hid (Below w.heap.size w W2) := by rw [hW2]; exact ((Below.refl _ _).alloc (Nat.le_refl _) _).alloc (by rw [hs1]; omega) _
  obtain ⟨W3, hW3⟩ : ∃ W3, W3 = W2.alloc (.cells #[.slice p lv.length cap] 89) := ⟨_, rfl⟩
  have HW3 : Hid (W3 = W2.alloc (.cells #[.slice p lv.length cap] 89)) := hW3
  have K2 : Hid (Bxs W3 W2.heap.size 89 #[.slice p lv.length cap]) := by rw [hW3]; exact Bxs.new _ _ _
  have K03 : Hid (Bxs W3 w.heap.size 2 #[.int .i64 row]) := by rw [hW3]; exact K0.out.alloc _
  have K13 : Hid (Bxs W3 (w.heap.size + 1) 2 #[.int .i64 0]) := by rw [hW3]; exact K1.out.alloc _
  have HS3 : Hid (W3.heap.size = w.heap.size + 3) := by rw [hW3]; show _ = _; have := HS2.out; simp; omega
  have B3 : Hid (Below w.heap.size w W3) := by rw [hW3]; exact B2.out.alloc B2.out.size _
  have HQ : Hid (∀ n, 1 ≤ n → SeqX Fence.wide n Tryz.prog 158 #[.pointer (some ⟨W2.heap.size, 0, none⟩)] (leafV lv) (Below w.heap.size) (lvNx lv) (fun ys => ys.length = lv.length) (fun _ => True) W3) := fun n hn => all1_stops n W2.heap.size hn p cap lv w W3 hL hl hc hz hg B3.out (K2.out.cell 0)
  have HZ : Hid (plB lv row = plFrom row (aheadN lv 0) 0 (lv.drop 0)) := rfl
  clear hW2 hs1 hW3 hL hz hg
  refine (callsIn_wide (n := 3)).1 ?_
  refine callsIn_of_wp_marks Tryz.func57 rfl trivial ?_ rfl
  simp only [Tryz.ntmps57, List.size_toArray, List.length_cons, List.length_nil, Nat.reduceAdd, Nat.reduceSub, Array.replicate_succ, Array.replicate_zero, List.push_toArray, List.append_toArray, List.nil_append, List.cons_append]
  gi_wp2
  refine ⟨trivial, ?_⟩
  rw [← HW2.out]
  refine (callsIn_wide.2 (allS_any p lv.length cap W2)).mono ?_
  rintro e w1 ⟨rfl, hw1⟩
  rw [← HW3.out] at hw1
  subst hw1
  gi_wp2
  refine rangeX (n := 3) rfl (by omega) (gf := 158) (lb := #[.pointer (some ⟨W2.heap.size, 0, none⟩)]) rfl trivial (enters_of Tryz.func158 (by kernel_rfl) rfl) (HQ.out 2 (by omega)) belowK_t (belowK_b B3.out.size) (Below.refl _ _) (fun _ => rfl)
    (fun pre W => PlI w lv row pre.length W ∧ Below w.heap.size w W) (fun c pre W => (c = .ret ∧ PlX w lv row pre.length W) ∧ Below w.heap.size w W) ?hI ?hIx ⟨⟨⟨K03.out, K13.out⟩, HZ.out⟩, B3.out⟩ ?round ?done ?stop
  case hI => exact OwnFrom.and (Own.from (fun s A B r hs hg hr => ⟨⟨bxs_own _ _ (fun _ => _) s A B r hs.1.1 hg hr, bxs_own _ _ (fun _ => _) s A B r hs.1.2 hg hr⟩, hs.2⟩) _) (ownFrom_below (Nat.le_refl _) B3.out.size)
  case hIx => exact fun c => OwnFrom.and (Own.from (fun s A B r hs hg hr => ⟨hs.1, bxs_own _ _ (fun _ => _) s A B r hs.2 hg hr⟩) _) (ownFrom_below (Nat.le_refl _) B3.out.size)
  case round =>
    rintro l pre x W ⟨hx, hxl⟩ ⟨⟨⟨hr0, hr1⟩, hpl⟩, hBW⟩ hlw
    rw [← hx] at hpl
    have HST : Hid (plB lv row = if plHit lv row x = true then (x : Int) else plFrom row (aheadN lv (x + 1)) (x + 1) (lv.drop (x + 1))) := hpl.trans (pl_step lv row x hxl)
    have HPL : Hid ((pre ++ [x]).length = x + 1) := by show _ = _; simp [hx]
    obtain ⟨t, C, n1, n2, n3, n4, A, hV, hAl, hH⟩ := pl_leaf lv row x (by omega)
    have HH : Hid (plHit lv row x = ((C == 1) && ((A : Int) == row))) := hH
    rw [hV]
    have hkk : x ≤ 1048576 := by omega
    clear hV hpl HZ HQ hx hH
    gi_wp2
    refine ⟨(KeepsOthers.alloc _ _).from _, (Below.refl _ _).alloc hBW.size _, fun B hT => ?_⟩
    have KL : Bxs B W.heap.size 163 #[.string t, .int .i64 C, .int .i64 n1, .int .i64 n2, .int .i64 n3, .int .i64 n4, .int .i64 (A : Int)] := hT.bxs (Bxs.new _ _ _)
    have KR : Bxs B w.heap.size 2 #[.int .i64 row] := hT.bxs (hr0.alloc _)
    have KO : Bxs B (w.heap.size + 1) 2 #[.int .i64 0] := hT.bxs (hr1.alloc _)
    have HBB : Hid (Below w.heap.size w B) := (hBW.alloc hBW.size _).trans (hT.below (by rw [HS3.out]; omega))
    have l1 := KL.cell 1
    have l6 := KL.cell 6
    have r0 := KR.cell 0
    have o0 := KO.cell 0
    have of := KO.fr 0
    have HKR : Hid (Bxs B w.heap.size 2 #[.int .i64 row]) := KR
    have HKO : Hid (Bxs B (w.heap.size + 1) 2 #[.int .i64 0]) := KO
    clear KL KR KO hr0 hr1 hBW hT
    cases hC : (C == 1) with
    | true =>
      rw [hC, Bool.true_and] at HH
      cases hr : ((A : Int) == row) with
      | true =>
        rw [hr] at HH
        rw [HH.out, if_pos rfl] at HST
        clear HH
        gi_wp2
        refine ⟨(KeepsOthers.setCell _ _ _).from _, ⟨rfl, ?_⟩, HBB.out.setCell (p := ⟨w.heap.size + 1, 0, none⟩) (by simp) _⟩
        unfold PlX
        rw [HST.out]
        exact HKO.out.set 0 _
      | false =>
        rw [hr] at HH
        rw [HH.out, if_neg Bool.false_ne_true] at HST
        clear HH
        gi_wp2
        exact ⟨KeepsFrom.refl _ _, Below.refl _ _, ⟨⟨HKR.out, HKO.out⟩, by rw [HPL.out]; exact HST.out⟩, HBB.out⟩
    | false =>
      rw [hC, Bool.false_and] at HH
      rw [HH.out, if_neg Bool.false_ne_true] at HST
      clear HH
      gi_wp2
      exact ⟨KeepsFrom.refl _ _, Below.refl _ _, ⟨⟨HKR.out, HKO.out⟩, by rw [HPL.out]; exact HST.out⟩, HBB.out⟩
  case done =>
    rintro D ys W hD hys ⟨⟨⟨hr0, hr1⟩, hpl⟩, hB⟩ hK
    have HE : Hid (plB lv row = -1) := by
      show _ = _
      rw [hpl, hys, List.drop_length]; rfl
    have o0 := hr1.cell 0
    have of := hr1.fr 0
    have hD2 : w.heap.size ≤ D := Nat.le_trans B3.out.size hD
    clear hpl hys HZ HQ
    gi_wp2
    have hK' := (KeepsOthers.setCell W ⟨w.heap.size + 1, 0, none⟩ (.int .i64 (-1))).same D _ hK rfl
    refine ⟨by simp, .inl ⟨_, _, rfl, run_takeDeferred hK', ?_⟩⟩
    have hc5 := cell_kept ((hr1.set 0 (.int .i64 (-1))).cell 0) (grownBy_putObj' _ D (.deferred none)) (fun r e => by cases e; exact ⟨_, hK', rfl⟩)
    refine ⟨.int .i64 (-1), ?_, by rw [HE.out], (hB.setCell (p := ⟨w.heap.size + 1, 0, none⟩) (by simp) _).trans (belowK_b (w := w) (Nat.le_refl _) _ D _ _ hD2 hK' rfl rfl)⟩
    simp [results, Tryz.f57, go_sem, hc5]
  case stop =>
    rintro D c pre W hD - ⟨⟨rfl, hcr⟩, hB⟩ hK
    have hD2 : w.heap.size ≤ D := Nat.le_trans B3.out.size hD
    gi_wp2
    refine ⟨by simp, .inl ⟨_, _, rfl, run_takeDeferred hK, ?_⟩⟩
    have hc5 := cell_kept (Bxs.cell hcr 0) (grownBy_putObj' _ D (.deferred none)) (fun r e => by cases e; exact ⟨_, hK, rfl⟩)
    refine ⟨.int .i64 (plB lv row), ?_, rfl, hB.trans (belowK_b (w := w) (Nat.le_refl _) W D _ _ hD2 hK rfl rfl)⟩
    simp [results, Tryz.f57, go_sem, hc5]

/-! ### The note of a field -/
theorem tb_step (lv : List ByteArray) (r f : Int) (k : Nat) (h : k < lv.length) : tbFrom r f k (lv.drop k) = if tmHit r f (lv.getD k ByteArray.empty) = true then (k : Int) else tbFrom r f (k + 1) (lv.drop (k + 1)) := by
  rw [List.drop_eq_getElem_cons h, tbFrom, List.getD_eq_getElem?_getD, List.getElem?_eq_getElem h, Option.getD_some]
theorem tb_leaf (lv : List ByteArray) (r f : Int) (k : Nat) (h : k ≤ 1048576) : ∃ (t : ByteArray) (C n1 n2 n3 n4 : Int) (A : Nat), leafV lv k = #[.int .i64 (k : Int), .agg #[.string t, .int .i64 C, .int .i64 n1, .int .i64 n2, .int .i64 n3, .int .i64 n4, .int .i64 (A : Int)]] ∧ A ≤ 1048576 ∧ tmHit r f (lv.getD k ByteArray.empty) = ((C == 2) && ((n1 == r) && (n2 == f))) := by
  refine ⟨lv.getD k ByteArray.empty, _, _, _, _, _, _, rfl, Nat.le_trans (ahead_le lv k) h, ?_⟩
  unfold tmHit
  rw [Bool.eq_iff_iff]
  simp only [Bool.and_eq_true, decide_eq_true_iff, beq_iff_eq]
  rw [lk_iff2]
def TbI (w : World) (lv : List ByteArray) (r f : Int) (k : Nat) (W : World) : Prop :=
  (Bxs W w.heap.size 2 #[.int .i64 r] ∧ Bxs W (w.heap.size + 1) 2 #[.int .i64 f] ∧ Bxs W (w.heap.size + 2) 2 #[.int .i64 0]) ∧ tbAt lv r f = tbFrom r f k (lv.drop k)
def TbX (w : World) (lv : List ByteArray) (r f : Int) (k : Nat) (W : World) : Prop := Bxs W (w.heap.size + 2) 2 #[.int .i64 (tbAt lv r f)]
set_option maxHeartbeats 4000000 in
theorem tombOf_any (p : Option Addr) (cap : Nat) (lv : List ByteArray) (r f : Int) (w : World) (hL : TxtAt w p lv) (hl : lv.length ≤ 1048576) (hc : lv.length ≤ cap) (hz : TxtsLe lv) (hg : Laid w) :
    Calls Tryz.prog 59 #[.slice p lv.length cap, .int .i64 r, .int .i64 f] w fun e w' => e = .returned (.int .i64 (tbAt lv r f)) ∧ Below w.heap.size w w' := by
  obtain ⟨W1, hW1⟩ : ∃ W1, W1 = w.alloc (.cells #[.int .i64 r] 2) := ⟨_, rfl⟩
  have hs1 : W1.heap.size = w.heap.size + 1 := by rw [hW1]; simp
  obtain ⟨W2a, hW2a⟩ : ∃ W2a, W2a = W1.alloc (.cells #[.int .i64 f] 2) := ⟨_, rfl⟩
  have hs2 : W2a.heap.size = w.heap.size + 2 := by rw [hW2a]; simp; omega
  obtain ⟨W2, hW2⟩ : ∃ W2, W2 = W2a.alloc (.cells #[.int .i64 0] 2) := ⟨_, rfl⟩
  have HW2 : Hid (W2 = ((w.alloc (.cells #[.int .i64 r] 2)).alloc (.cells #[.int .i64 f] 2)).alloc (.cells #[.int .i64 0] 2)) := by show _ = _; rw [hW2, hW2a, hW1]
  have HS2 : Hid (W2.heap.size = w.heap.size + 3) := by rw [hW2]; show _ = _; simp; omega
  have Ka : Bxs W1 w.heap.size 2 #[.int .i64 r] := by rw [hW1]; exact Bxs.new _ _ _
  have Kb : Bxs W2a (w.heap.size + 1) 2 #[.int .i64 f] := by rw [hW2a, ← hs1]; exact Bxs.new _ _ _
  have Ka2 : Bxs W2a w.heap.size 2 #[.int .i64 r] := by rw [hW2a]; exact Ka.alloc _
  have K0 : Hid (Bxs W2 w.heap.size 2 #[.int .i64 r]) := by rw [hW2]; exact Ka2.alloc _
  have K1 : Hid (Bxs W2 (w.heap.size + 1) 2 #[.int .i64 f]) := by rw [hW2]; exact Kb.alloc _
  have K1b : Hid (Bxs W2 (w.heap.size + 2) 2 #[.int .i64 0]) := by rw [hW2, ← hs2]; exact Bxs.new _ _ _
  have B2 : Hid (Below w.heap.size w W2) := by rw [hW2, hW2a, hW1]; exact (((Below.refl _ _).alloc (Nat.le_refl _) _).alloc (by simp) _).alloc (by simp; omega) _
  clear Ka Kb Ka2
  obtain ⟨W3, hW3⟩ : ∃ W3, W3 = W2.alloc (.cells #[.slice p lv.length cap] 89) := ⟨_, rfl⟩
  have HW3 : Hid (W3 = W2.alloc (.cells #[.slice p lv.length cap] 89)) := hW3
  have K2 : Hid (Bxs W3 W2.heap.size 89 #[.slice p lv.length cap]) := by rw [hW3]; exact Bxs.new _ _ _
  have K03 : Hid (Bxs W3 w.heap.size 2 #[.int .i64 r]) := by rw [hW3]; exact K0.out.alloc _
  have K13 : Hid (Bxs W3 (w.heap.size + 1) 2 #[.int .i64 f]) := by rw [hW3]; exact K1.out.alloc _
  have K23 : Hid (Bxs W3 (w.heap.size + 2) 2 #[.int .i64 0]) := by rw [hW3]; exact K1b.out.alloc _
  have HS3 : Hid (W3.heap.size = w.heap.size + 4) := by rw [hW3]; show _ = _; have := HS2.out; simp; omega
  have B3 : Hid (Below w.heap.size w W3) := by rw [hW3]; exact B2.out.alloc B2.out.size _
  have HQ : Hid (∀ n, 1 ≤ n → SeqX Fence.wide n Tryz.prog 158 #[.pointer (some ⟨W2.heap.size, 0, none⟩)] (leafV lv) (Below w.heap.size) (lvNx lv) (fun ys => ys.length = lv.length) (fun _ => True) W3) := fun n hn => all1_stops n W2.heap.size hn p cap lv w W3 hL hl hc hz hg B3.out (K2.out.cell 0)
  have HZ : Hid (tbAt lv r f = tbFrom r f 0 (lv.drop 0)) := rfl
  clear hW2 hs1 hs2 hW1 hW2a hW3 hL hz hg
  refine (callsIn_wide (n := 3)).1 ?_
  refine callsIn_of_wp_marks Tryz.func59 rfl trivial ?_ rfl
  simp only [Tryz.ntmps59, List.size_toArray, List.length_cons, List.length_nil, Nat.reduceAdd, Nat.reduceSub, Array.replicate_succ, Array.replicate_zero, List.push_toArray, List.append_toArray, List.nil_append, List.cons_append]
  gi_wp2
  refine ⟨trivial, ?_⟩
  rw [← HW2.out]
  refine (callsIn_wide.2 (allS_any p lv.length cap W2)).mono ?_
  rintro e w1 ⟨rfl, hw1⟩
  rw [← HW3.out] at hw1
  subst hw1
  gi_wp2
  refine rangeX (n := 3) rfl (by omega) (gf := 158) (lb := #[.pointer (some ⟨W2.heap.size, 0, none⟩)]) rfl trivial (enters_of Tryz.func158 (by kernel_rfl) rfl) (HQ.out 2 (by omega)) belowK_t (belowK_b B3.out.size) (Below.refl _ _) (fun _ => rfl)
    (fun pre W => TbI w lv r f pre.length W ∧ Below w.heap.size w W) (fun c pre W => (c = .ret ∧ TbX w lv r f pre.length W) ∧ Below w.heap.size w W) ?hI ?hIx ⟨⟨⟨K03.out, K13.out, K23.out⟩, HZ.out⟩, B3.out⟩ ?round ?done ?stop
  case hI => exact OwnFrom.and (Own.from (fun s A B rw hs hg hr => ⟨⟨bxs_own _ _ (fun _ => _) s A B rw hs.1.1 hg hr, bxs_own _ _ (fun _ => _) s A B rw hs.1.2.1 hg hr, bxs_own _ _ (fun _ => _) s A B rw hs.1.2.2 hg hr⟩, hs.2⟩) _) (ownFrom_below (Nat.le_refl _) B3.out.size)
  case hIx => exact fun c => OwnFrom.and (Own.from (fun s A B rw hs hg hr => ⟨hs.1, bxs_own _ _ (fun _ => _) s A B rw hs.2 hg hr⟩) _) (ownFrom_below (Nat.le_refl _) B3.out.size)
  case round =>
    rintro l pre x W ⟨hx, hxl⟩ ⟨⟨⟨hr0, hrf, hr1⟩, hpl⟩, hBW⟩ hlw
    rw [← hx] at hpl
    have HST : Hid (tbAt lv r f = if tmHit r f (lv.getD x ByteArray.empty) = true then (x : Int) else tbFrom r f (x + 1) (lv.drop (x + 1))) := hpl.trans (tb_step lv r f x hxl)
    have HPL : Hid ((pre ++ [x]).length = x + 1) := by show _ = _; simp [hx]
    obtain ⟨t, C, n1, n2, n3, n4, A, hV, hAl, hH⟩ := tb_leaf lv r f x (by omega)
    have HH : Hid (tmHit r f (lv.getD x ByteArray.empty) = ((C == 2) && ((n1 == r) && (n2 == f)))) := hH
    rw [hV]
    have hkk : x ≤ 1048576 := by omega
    clear hV hpl HZ HQ hx hH
    gi_wp2
    refine ⟨(KeepsOthers.alloc _ _).from _, (Below.refl _ _).alloc hBW.size _, fun B hT => ?_⟩
    have KL : Bxs B W.heap.size 163 #[.string t, .int .i64 C, .int .i64 n1, .int .i64 n2, .int .i64 n3, .int .i64 n4, .int .i64 (A : Int)] := hT.bxs (Bxs.new _ _ _)
    have KR : Bxs B w.heap.size 2 #[.int .i64 r] := hT.bxs (hr0.alloc _)
    have KF : Bxs B (w.heap.size + 1) 2 #[.int .i64 f] := hT.bxs (hrf.alloc _)
    have KO : Bxs B (w.heap.size + 2) 2 #[.int .i64 0] := hT.bxs (hr1.alloc _)
    have HBB : Hid (Below w.heap.size w B) := (hBW.alloc hBW.size _).trans (hT.below (by rw [HS3.out]; omega))
    have l1 := KL.cell 1
    have l2 := KL.cell 2
    have l3 := KL.cell 3
    have q0 := KF.cell 0
    have r0 := KR.cell 0
    have o0 := KO.cell 0
    have of := KO.fr 0
    have HKR : Hid (Bxs B w.heap.size 2 #[.int .i64 r]) := KR
    have HKF : Hid (Bxs B (w.heap.size + 1) 2 #[.int .i64 f]) := KF
    have HKO : Hid (Bxs B (w.heap.size + 2) 2 #[.int .i64 0]) := KO
    clear KL KR KF KO hr0 hrf hr1 hBW hT
    have go : Hid (∀ (h : tmHit r f (lv.getD x ByteArray.empty) = false), tbAt lv r f = tbFrom r f (x + 1) (lv.drop (x + 1))) := fun h => by rw [HST.out, h, if_neg Bool.false_ne_true]
    cases hC : (C == 2) with
    | true =>
      rw [hC, Bool.true_and] at HH
      cases hr : (n1 == r) with
      | true =>
        rw [hr, Bool.true_and] at HH
        cases hq : (n2 == f) with
        | true =>
          rw [hq] at HH
          rw [HH.out, if_pos rfl] at HST
          clear HH go
          gi_wp2
          refine ⟨(KeepsOthers.setCell _ _ _).from _, ⟨rfl, ?_⟩, HBB.out.setCell (p := ⟨w.heap.size + 2, 0, none⟩) (by simp) _⟩
          unfold TbX
          rw [HST.out]
          exact HKO.out.set 0 _
        | false =>
          rw [hq] at HH
          have HG := go.out HH.out
          clear HH go HST
          gi_wp2
          exact ⟨KeepsFrom.refl _ _, Below.refl _ _, ⟨⟨HKR.out, HKF.out, HKO.out⟩, by rw [HPL.out]; exact HG⟩, HBB.out⟩
      | false =>
        rw [hr, Bool.false_and] at HH
        have HG := go.out HH.out
        clear HH go HST
        gi_wp2
        exact ⟨KeepsFrom.refl _ _, Below.refl _ _, ⟨⟨HKR.out, HKF.out, HKO.out⟩, by rw [HPL.out]; exact HG⟩, HBB.out⟩
    | false =>
      rw [hC, Bool.false_and] at HH
      have HG := go.out HH.out
      clear HH go HST
      gi_wp2
      exact ⟨KeepsFrom.refl _ _, Below.refl _ _, ⟨⟨HKR.out, HKF.out, HKO.out⟩, by rw [HPL.out]; exact HG⟩, HBB.out⟩
  case done =>
    rintro D ys W hD hys ⟨⟨⟨hr0, hrf, hr1⟩, hpl⟩, hB⟩ hK
    have HE : Hid (tbAt lv r f = -1) := by
      show _ = _
      rw [hpl, hys, List.drop_length]; rfl
    have o0 := hr1.cell 0
    have of := hr1.fr 0
    have hD2 : w.heap.size ≤ D := Nat.le_trans B3.out.size hD
    clear hpl hys HZ HQ
    gi_wp2
    have hK' := (KeepsOthers.setCell W ⟨w.heap.size + 2, 0, none⟩ (.int .i64 (-1))).same D _ hK rfl
    refine ⟨by simp, .inl ⟨_, _, rfl, run_takeDeferred hK', ?_⟩⟩
    have hc5 := cell_kept ((hr1.set 0 (.int .i64 (-1))).cell 0) (grownBy_putObj' _ D (.deferred none)) (fun r e => by cases e; exact ⟨_, hK', rfl⟩)
    refine ⟨.int .i64 (-1), ?_, by rw [HE.out], (hB.setCell (p := ⟨w.heap.size + 2, 0, none⟩) (by simp) _).trans (belowK_b (w := w) (Nat.le_refl _) _ D _ _ hD2 hK' rfl rfl)⟩
    simp [results, Tryz.f59, go_sem, hc5]
  case stop =>
    rintro D c pre W hD - ⟨⟨rfl, hcr⟩, hB⟩ hK
    have hD2 : w.heap.size ≤ D := Nat.le_trans B3.out.size hD
    gi_wp2
    refine ⟨by simp, .inl ⟨_, _, rfl, run_takeDeferred hK, ?_⟩⟩
    have hc5 := cell_kept (Bxs.cell hcr 0) (grownBy_putObj' _ D (.deferred none)) (fun r e => by cases e; exact ⟨_, hK, rfl⟩)
    refine ⟨.int .i64 (tbAt lv r f), ?_, rfl, hB.trans (belowK_b (w := w) (Nat.le_refl _) W D _ _ hD2 hK rfl rfl)⟩
    simp [results, Tryz.f59, go_sem, hc5]
end Go.Proofs.YtonleickhincgaaGreatDoor
/-
  Marks of fields (six rows of three): as cells, held against each other, loaded and stored whole.
-/
namespace Go.Proofs.YtonleickhincgaaGreatDoor
open Go.RowKit Go.Lib
set_option linter.unusedVariables false
set_option maxRecDepth 20000

def mV (m : List Bool) : Array Value := (m.map Value.bool).toArray
theorem mV_size (m : List Bool) : (mV m).size = m.length := by simp [mV]
theorem mV_at (m : List Bool) (i : Nat) : (mV m)[i]? = m[i]?.map Value.bool := by simp [mV]
theorem mV_set (m : List Bool) (i : Nat) (b : Bool) : (mV m).setIfInBounds i (.bool b) = mV (m.set i b) := by
  unfold mV
  apply Array.ext'
  simp [List.map_set]
theorem len18 {a : List Bool} (h : a.length = 18) : ∃ a0 a1 a2 a3 a4 a5 a6 a7 a8 a9 a10 a11 a12 a13 a14 a15 a16 a17, a = [a0, a1, a2, a3, a4, a5, a6, a7, a8, a9, a10, a11, a12, a13, a14, a15, a16, a17] := by
  match a, h with
  | [a0, a1, a2, a3, a4, a5, a6, a7, a8, a9, a10, a11, a12, a13, a14, a15, a16, a17], _ => exact ⟨a0, a1, a2, a3, a4, a5, a6, a7, a8, a9, a10, a11, a12, a13, a14, a15, a16, a17, rfl⟩
theorem lits18 (a0 a1 a2 a3 a4 a5 a6 a7 a8 a9 a10 a11 a12 a13 a14 a15 a16 a17 : Bool) : Tryz.prog.keyLits 3 222 (mV [a0, a1, a2, a3, a4, a5, a6, a7, a8, a9, a10, a11, a12, a13, a14, a15, a16, a17]).toList = some [.bool a0, .bool a1, .bool a2, .bool a3, .bool a4, .bool a5, .bool a6, .bool a7, .bool a8, .bool a9, .bool a10, .bool a11, .bool a12, .bool a13, .bool a14, .bool a15, .bool a16, .bool a17] := by kernel_rfl
theorem keyMarks : Tryz.prog.keyTypeAt 3 222 = true := by kernel_rfl
theorem formed18 (a0 a1 a2 a3 a4 a5 a6 a7 a8 a9 a10 a11 a12 a13 a14 a15 a16 a17 : Bool) : (Value.agg (mV [a0, a1, a2, a3, a4, a5, a6, a7, a8, a9, a10, a11, a12, a13, a14, a15, a16, a17])).formed Tryz.prog 222 = true := by kernel_rfl
theorem eq18 (a b : List Bool) (ha : a.length = 18) (hb : b.length = 18) (w : World) : (binOp .eql 222 (.agg (mV a)) (.agg (mV b))).run Tryz.prog w = .ok (.bool (decide (a = b))) w := by
  obtain ⟨a0, a1, a2, a3, a4, a5, a6, a7, a8, a9, a10, a11, a12, a13, a14, a15, a16, a17, rfl⟩ := len18 ha
  obtain ⟨b0, b1, b2, b3, b4, b5, b6, b7, b8, b9, b10, b11, b12, b13, b14, b15, b16, b17, rfl⟩ := len18 hb
  obtain ⟨r, hr, hiff⟩ := run_equalIn_deep (P := Tryz.prog) 9997 3 222 keyMarks w 3 3 _ _ _ _ (formed18 a0 a1 a2 a3 a4 a5 a6 a7 a8 a9 a10 a11 a12 a13 a14 a15 a16 a17) (formed18 b0 b1 b2 b3 b4 b5 b6 b7 b8 b9 b10 b11 b12 b13 b14 b15 b16 b17) (lits18 a0 a1 a2 a3 a4 a5 a6 a7 a8 a9 a10 a11 a12 a13 a14 a15 a16 a17) (lits18 b0 b1 b2 b3 b4 b5 b6 b7 b8 b9 b10 b11 b12 b13 b14 b15 b16 b17)
  rw [run_eql_struct, hr]
  simp only [Result.andThen_ok]
  have : r = decide ([a0, a1, a2, a3, a4, a5, a6, a7, a8, a9, a10, a11, a12, a13, a14, a15, a16, a17] = [b0, b1, b2, b3, b4, b5, b6, b7, b8, b9, b10, b11, b12, b13, b14, b15, b16, b17]) := by
    rw [Bool.eq_iff_iff, hiff, decide_eq_true_iff]
    simp
  rw [this]
theorem underM : Tryz.prog.underlying 222 = some (.array (Tryz.prog.arrayLen 222) (Tryz.prog.elem 222)) := by kernel_rfl
theorem infoM : (Tryz.prog.info? 222).map (·.size) = some 18 := by kernel_rfl
theorem loadM {w : World} {g : Nat} {m : List Bool} (h : Bxs w g 222 (mV m)) (hm : m.length = 18) : (loadVar 222 ⟨g, 0, none⟩).run Tryz.prog w = .ok (.agg (mV m)) w :=
  run_loadVar_row (P := Tryz.prog) w g 222 222 _ (0, 0) _ h underM rfl (by rw [mV_size, hm]; exact infoM)
theorem storeM {w : World} {g : Nat} {m m' : List Bool} (h : Bxs w g 222 (mV m)) (hm : m.length = 18) (hm' : m'.length = 18) : (storeVar 222 ⟨g, 0, none⟩ (.agg (mV m'))).run Tryz.prog w = .ok () (w.setRow g (mV m')) :=
  run_storeVar_row (P := Tryz.prog) w g 222 222 _ (mV m') h (by rw [mV_size, hm']; exact infoM) (by rw [mV_size, mV_size, hm, hm']) (by simp [mV, Value.oneCell'])
end Go.Proofs.YtonleickhincgaaGreatDoor
/-
  What of a log's rows is gone, as the program marks it.
  Conditions: the cells of Rows hold the rows; there are at most six, of at most three fields.
-/
namespace Go.Proofs.YtonleickhincgaaGreatDoor
open Go.RowKit Go.Lib
set_option linter.unusedVariables false
set_option maxRecDepth 20000

def gBit (rs : List Rw) (j : Nat) : Bool := (fldOf rs ((j / 3 : Nat) : Int) ((j % 3 : Nat) : Int)).g
def gnTo (rs : List Rw) (m : Nat) : List Bool := (List.range 18).map fun j => if j < m then gBit rs j else false
theorem gnTo_len (rs : List Rw) (m : Nat) : (gnTo rs m).length = 18 := by simp [gnTo]
theorem gnTo_zero (rs : List Rw) : gnTo rs 0 = [false, false, false, false, false, false, false, false, false, false, false, false, false, false, false, false, false, false] := by
  unfold gnTo; simp [List.range, List.range.loop]
theorem gnTo_all (rs : List Rw) {m : Nat} (h : rs.length * 3 ≤ m) : gnTo rs m = goneM rs := by
  unfold gnTo goneM
  apply List.map_congr_left
  intro j hj
  split
  · rfl
  · rename_i hj2
    unfold fldOf
    simp only [Int.toNat_natCast]
    rw [List.getD_eq_getElem?_getD (l := rs), List.getElem?_eq_none (by omega)]
    simp [rwZ, fldZ]
theorem gnTo_set (rs : List Rw) (m : Nat) (h : m < 18) : (gnTo rs m).set m (gBit rs m) = gnTo rs (m + 1) := by
  apply List.ext_getElem
  · simp [gnTo]
  · intro j h1 h2
    rw [List.getElem_set]
    simp only [gnTo, List.getElem_map, List.getElem_range]
    by_cases e : m = j
    · subst e; simp
    · rw [if_neg e]
      by_cases e2 : j < m
      · rw [if_pos e2, if_pos (by omega)]
      · rw [if_neg e2, if_neg (by omega)]
theorem gBit_none (rs : List Rw) (i k : Nat) (hk : k < 3) (h : (rs.getD i rwZ).fs.length ≤ k) : gBit rs (i * 3 + k) = false := by
  unfold gBit fldOf
  have e1 : (i * 3 + k) / 3 = i := by omega
  have e2 : (i * 3 + k) % 3 = k := by omega
  simp only [e1, e2, Int.toNat_natCast]
  rw [List.getD_eq_getElem?_getD (l := (rs.getD i rwZ).fs), List.getElem?_eq_none h]
  rfl
theorem gBit_some (rs : List Rw) (i k : Nat) (hi : i < rs.length) (hk3 : k < 3) (hk : k < rs[i].fs.length) : gBit rs (i * 3 + k) = rs[i].fs[k].g := by
  unfold gBit fldOf
  have e1 : (i * 3 + k) / 3 = i := by omega
  have e2 : (i * 3 + k) % 3 = k := by omega
  simp only [e1, e2, Int.toNat_natCast]
  rw [List.getD_eq_getElem?_getD (l := rs), List.getElem?_eq_getElem hi, Option.getD_some, List.getD_eq_getElem?_getD, List.getElem?_eq_getElem hk, Option.getD_some]
theorem gnTo_end (rs : List Rw) (i k : Nat) (hi : i < rs.length) (hk : k = rs[i].fs.length) (h3 : k ≤ 3) : gnTo rs (i * 3 + k) = gnTo rs ((i + 1) * 3) := by
  unfold gnTo
  apply List.map_congr_left
  intro j hj
  by_cases h1 : j < i * 3 + k
  · rw [if_pos h1, if_pos (by omega)]
  · rw [if_neg h1]
    by_cases h2 : j < (i + 1) * 3
    · rw [if_pos h2]
      have := gBit_none rs i (j - i * 3) (by omega) (by rw [List.getD_eq_getElem?_getD, List.getElem?_eq_getElem hi, Option.getD_some]; omega)
      rw [show i * 3 + (j - i * 3) = j by omega] at this
      exact this.symm
    · rw [if_neg h2]
/-- The boxes while the marks are made. -/
structure GnS (w : World) (cs : Array Value) (rs : List Rw) (m : Nat) (W : World) : Prop where
  bel : Below w.heap.size w W
  wk : Bxs W w.heap.size 91 cs
  re : Bxs W (w.heap.size + 1) 222 (mV (gnTo rs 0))
  mks : Bxs W (w.heap.size + 2) 222 (mV (gnTo rs m))
theorem GnS.alloc {w : World} {cs : Array Value} {rs : List Rw} {m : Nat} {W : World} (h : GnS w cs rs m W) (o : Obj) : GnS w cs rs m (W.alloc o) := ⟨h.bel.alloc h.bel.size _, h.wk.alloc _, h.re.alloc _, h.mks.alloc _⟩
theorem GnS.drew {w : World} {cs : Array Value} {rs : List Rw} {m : Nat} {W : World} (h : GnS w cs rs m W) : GnS w cs rs m W.drew := ⟨h.bel.drew, h.wk, h.re, h.mks⟩
theorem GnS.put {w : World} {cs : Array Value} {rs : List Rw} {m : Nat} {W : World} (h : GnS w cs rs m W) (hm : m < 18) : GnS w cs rs (m + 1) (W.setCell ⟨w.heap.size + 2, m, none⟩ (.bool (gBit rs m))) :=
  ⟨h.bel.setCell (p := ⟨w.heap.size + 2, m, none⟩) (Nat.le_add_right _ _) _, h.wk.other _ _ (by omega) _, h.re.other _ _ (by omega) _, by have := h.mks.set m (.bool (gBit rs m)); rwa [mV_set, gnTo_set rs m hm] at this⟩
set_option maxHeartbeats 8000000 in
theorem gone_any (p : Option Addr) (lv : List ByteArray) (cp : Nat) (q : Option Addr) (rs : List Rw) (cq : Nat) (now : Int) (w : World) (hR : RwAt w q rs) (h6 : rs.length ≤ 6) (hcq : rs.length ≤ cq) (h3 : ∀ r ∈ rs, r.fs.length ≤ 3) :
    Calls Tryz.prog 179 #[.agg (wkC p lv cp q rs cq now)] w fun e w' => e = .returned (.agg (mV (goneM rs))) ∧ Below w.heap.size w w' := by
  obtain ⟨W3, hW3⟩ : ∃ W3, W3 = ((w.alloc (.cells #[.slice p lv.length cp, .slice q rs.length cq, .int .i64 now] 91)).alloc (.cells #[.bool false, .bool false, .bool false, .bool false, .bool false, .bool false, .bool false, .bool false, .bool false, .bool false, .bool false, .bool false, .bool false, .bool false, .bool false, .bool false, .bool false, .bool false] 222)).alloc (.cells #[.bool false, .bool false, .bool false, .bool false, .bool false, .bool false, .bool false, .bool false, .bool false, .bool false, .bool false, .bool false, .bool false, .bool false, .bool false, .bool false, .bool false, .bool false] 222) := ⟨_, rfl⟩
  have HW3 : Hid (W3 = _) := hW3
  have HS0 : Hid (GnS w #[.slice p lv.length cp, .slice q rs.length cq, .int .i64 now] rs 0 W3) := by
    have z : mV (gnTo rs 0) = #[.bool false, .bool false, .bool false, .bool false, .bool false, .bool false, .bool false, .bool false, .bool false, .bool false, .bool false, .bool false, .bool false, .bool false, .bool false, .bool false, .bool false, .bool false] := by rw [gnTo_zero]; rfl
    refine ⟨?_, ?_, ?_, ?_⟩
    · rw [hW3]; exact (((Below.refl _ _).alloc (Nat.le_refl _) _).alloc (by simp) _).alloc (by simp; omega) _
    · rw [hW3]; exact ((Bxs.new _ _ _).alloc _).alloc _
    · rw [hW3, z]
      have := (Bxs.new (w.alloc (.cells #[.slice p lv.length cp, .slice q rs.length cq, .int .i64 now] 91)) 222 #[.bool false, .bool false, .bool false, .bool false, .bool false, .bool false, .bool false, .bool false, .bool false, .bool false, .bool false, .bool false, .bool false, .bool false, .bool false, .bool false, .bool false, .bool false])
      rw [szA] at this
      exact this.alloc _
    · rw [hW3, z]
      have := (Bxs.new ((w.alloc (.cells #[.slice p lv.length cp, .slice q rs.length cq, .int .i64 now] 91)).alloc (.cells #[.bool false, .bool false, .bool false, .bool false, .bool false, .bool false, .bool false, .bool false, .bool false, .bool false, .bool false, .bool false, .bool false, .bool false, .bool false, .bool false, .bool false, .bool false] 222)) 222 #[.bool false, .bool false, .bool false, .bool false, .bool false, .bool false, .bool false, .bool false, .bool false, .bool false, .bool false, .bool false, .bool false, .bool false, .bool false, .bool false, .bool false, .bool false])
      rw [szA, szA] at this
      exact this
  have HR : Hid (RwAt w q rs) := hR
  have H3 : Hid (∀ r ∈ rs, r.fs.length ≤ 3) := h3
  have HG : Hid (gnTo rs (rs.length * 3) = goneM rs) := gnTo_all rs (Nat.le_refl _)
  unfold wkC
  have x1 := HS0.out.wk.cell 1
  rw [HW3.out] at x1
  clear hW3 hR h3
  go_enter Tryz.func179, Tryz.ntmps179
  go_wp2_with fail
  rw [← HW3.out]
  clear x1 HW3
  go_loopw [11] (fun i wr => ∃ k : Nat, k ≤ rs.length ∧ i = .int .i64 k ∧ Hid (GnS w #[.slice p lv.length cp, .slice q rs.length cq, .int .i64 now] rs (k * 3) wr)) (fun i _ => rs.length - (Go.RowKit.intOf i).toNat)
  case atStart => exact ⟨0, Nat.zero_le _, rfl, HS0.out⟩
  case round =>
    obtain ⟨i, hi, rfl, HS⟩ := hrel
    by_cases hlt : i < rs.length
    · have i1 : (i : Int) < rs.length := by omega
      obtain ⟨b, off, rq, rc, rfl, hb0, c0, c1, c2, c3, c4⟩ := (HR.out.below HS.out.bel) i hlt
      have hf3 := H3.out _ (List.getElem_mem hlt)
      have HF : Hid (FldAt w rq rs[i].fs) := by
        obtain ⟨b', off', rq', rc', e0, -, -, -, e2, -, e4⟩ := HR.out i hlt
        cases e0
        have := (HS.out.bel.cell (p := ⟨b, off + i * 3 + 2, none⟩) (World.block_lt_of_cell? w _ e2)).trans e2
        rw [c2] at this
        cases this
        exact e4
      have HE : Hid (∀ k, k = rs[i].fs.length → gnTo rs (i * 3 + k) = gnTo rs ((i + 1) * 3)) := fun k hk => gnTo_end rs i k hlt hk (by omega)
      have HGB : Hid (∀ k (h : k < rs[i].fs.length), gBit rs (i * 3 + k) = rs[i].fs[k].g) := fun k h => gBit_some rs i k hlt (by omega) h
      have HSA : Hid (GnS w #[.slice p lv.length cp, .slice (some ⟨b, off, none⟩) rs.length cq, .int .i64 now] rs (i * 3) (wr.alloc (.cells #[.string rs[i].k, .int .i64 rs[i].a, .slice rq rs[i].fs.length rc] 100))) := HS.out.alloc _
      generalize rs[i].k = rk at *
      generalize rs[i].a = ra at *
      generalize rs[i].fs = fs at *
      clear c4 HS
      go_wp2_with fail
      clear c0 c1 c2
      generalize wr.alloc (.cells #[.string rk, .int .i64 ra, .slice rq fs.length rc] 100) = y0 at *
      go_loopw [19] (fun j wy => ∃ k : Nat, k ≤ fs.length ∧ j = .int .i64 k ∧ Hid (GnS w #[.slice p lv.length cp, .slice (some ⟨b, off, none⟩) rs.length cq, .int .i64 now] rs (i * 3 + k) wy)) (fun j _ => fs.length - (Go.RowKit.intOf j).toNat)
      case atStart => exact ⟨0, Nat.zero_le _, rfl, HSA.out⟩
      case round =>
        obtain ⟨k, hk, rfl, HSk⟩ := hrel
        by_cases hkt : k < fs.length
        · have k1 : (k : Int) < fs.length := by omega
          obtain ⟨bf, of, rfl, hbf, f0, f1, f2, f3, f4⟩ := (HF.out.below HSk.out.bel) k hkt
          have HP : Hid (∀ x, GnS w #[.slice p lv.length cp, .slice (some ⟨b, off, none⟩) rs.length cq, .int .i64 now] rs (i * 3 + k) x → GnS w #[.slice p lv.length cp, .slice (some ⟨b, off, none⟩) rs.length cq, .int .i64 now] rs (i * 3 + k + 1) (x.setCell ⟨w.heap.size + 2, i * 3 + k, none⟩ (.bool fs[k].g))) := fun x hx => by
            rw [← HGB.out k hkt]; exact hx.put (by omega)
          have HA : Hid (GnS w #[.slice p lv.length cp, .slice (some ⟨b, off, none⟩) rs.length cq, .int .i64 now] rs (i * 3 + k) (wr.alloc (.cells #[.string fs[k].n, .string fs[k].c, .string fs[k].s, .string fs[k].v, .bool fs[k].g] 122))) := HSk.out.alloc _
          have KA : Hid (Bxs (wr.alloc (.cells #[.string fs[k].n, .string fs[k].c, .string fs[k].s, .string fs[k].v, .bool fs[k].g] 122)) wr.heap.size 122 #[.string fs[k].n, .string fs[k].c, .string fs[k].s, .string fs[k].v, .bool fs[k].g]) := Bxs.new _ _ _
          have i6 : (i : Int) < 6 := by omega
          have k3 : (k : Int) < 3 := by omega
          generalize fs[k].n = fn at *
          generalize fs[k].c = fc at *
          generalize fs[k].s = fss at *
          generalize fs[k].v = fv at *
          generalize fs[k].g = fg at *
          go_upto_region 8 with fail
          clear f0 f1 f2 f3 f4
          generalize wr.alloc (.cells #[.string fn, .string fc, .string fss, .string fv, .bool fg] 122) = y1 at *
          have a4 := KA.out.cell 4
          obtain ⟨ob, hob⟩ : ∃ ob, (mV (gnTo rs (i * 3 + k)))[i * 3 + k]? = some ob := ⟨_, Array.getElem?_eq_getElem (by rw [mV_size, gnTo_len]; omega)⟩
          have m0 := HA.out.mks.cell (i * 3 + k)
          rw [hob] at m0
          have m1 := HA.out.mks.fr (i * 3 + k)
          have HZ : Hid (GnS w #[.slice p lv.length cp, .slice (some ⟨b, off, none⟩) rs.length cq, .int .i64 now] rs (i * 3 + (k + 1)) (y1.setCell ⟨w.heap.size + 2, i * 3 + k, none⟩ (.bool fg)).drew) := (HP.out _ HA.out).drew
          go_region
          go_wp2_with fail
          go_roundw
          case rel => exact ⟨k + 1, by omega, by simp, HZ.out⟩
          case measure => simp [Go.RowKit.intOf]; omega
        · obtain rfl : k = fs.length := by omega
          have HN : Hid (GnS w #[.slice p lv.length cp, .slice (some ⟨b, off, none⟩) rs.length cq, .int .i64 now] rs ((i + 1) * 3) wr) := by
            have := HSk.out
            exact ⟨this.bel, this.wk, this.re, by rw [← HE.out _ rfl]; exact this.mks⟩
          go_wp2_with fail
          go_roundw
          case rel => exact ⟨i + 1, by omega, by simp, HN.out⟩
          case measure => simp [Go.RowKit.intOf]; omega
    · obtain rfl : i = rs.length := by omega
      have HM : Hid (Bxs wr (w.heap.size + 2) 222 (mV (goneM rs))) := by rw [← HG.out]; exact HS.out.mks
      have HL : Hid ((loadVar 222 ⟨w.heap.size + 2, 0, none⟩).run Tryz.prog wr = .ok (.agg (mV (goneM rs))) wr) := loadM HM.out (goneM_len rs)
      have HT : Hid ((storeVar 222 ⟨w.heap.size + 1, 0, none⟩ (.agg (mV (goneM rs)))).run Tryz.prog wr = .ok () (wr.setRow (w.heap.size + 1) (mV (goneM rs)))) := storeM HS.out.re (gnTo_len rs 0) (goneM_len rs)
      have HL2 : Hid ((loadVar 222 ⟨w.heap.size + 1, 0, none⟩).run Tryz.prog (wr.setRow (w.heap.size + 1) (mV (goneM rs))) = .ok (.agg (mV (goneM rs))) (wr.setRow (w.heap.size + 1) (mV (goneM rs)))) := loadM (setRow_heap wr (w.heap.size + 1) _ (mV (goneM rs)) 222 _ HS.out.re) (goneM_len rs)
      have HB : Hid (Below w.heap.size w (wr.setRow (w.heap.size + 1) (mV (goneM rs)))) := below_setRow HS.out.bel (Nat.le_add_right _ _) _
      generalize hRE : mV (goneM rs) = row at *
      have HRE : Hid (mV (goneM rs) = row) := hRE
      clear hRE
      generalize wr.setRow (w.heap.size + 1) row = wz at *
      clear HM HS
      go_wp2_with (first | refine wpList_load_row rfl 222 _ rfl ⟨w.heap.size + 2, 0, none⟩ _ rfl HL.out ?_ | refine wpList_store_row rfl 222 _ _ rfl rfl ⟨w.heap.size + 1, 0, none⟩ _ wz rfl rfl HT.out ?_)
      refine bodyPost_cell rfl rfl rfl HL2.out ⟨by rw [HRE.out], HB.out⟩
end Go.Proofs.YtonleickhincgaaGreatDoor
