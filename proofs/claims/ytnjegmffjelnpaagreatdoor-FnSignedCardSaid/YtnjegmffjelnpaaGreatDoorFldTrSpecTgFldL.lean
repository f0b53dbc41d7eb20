/-
  Parts of one proof, laid as one text: FldTr, SpecTg, FldL; what each says stands at its head.
-/
import Derived.Test.YtnjegmffjelnpaaGreatDoorRows
import Derived.Test.YtnjegmffjelnpaaGreatDoorBytesDigMathTurnIWholeR
import Derived.Test.YtnjegmffjelnpaaGreatDoorMacMathPutMathJoinedDigITurn2
import Derived.Test.YtnjegmffjelnpaaGreatDoorPutNumAppSSrc
import Derived.Test.YtnjegmffjelnpaaGreatDoorSlABxKSlBOwnSSgnBOwnBPadI
import Derived.Test.YtnjegmffjelnpaaGreatDoorGrKTakesLSpecGNSpecGTTillTwoFldNFldTb
import Derived.Test.YtnjegmffjelnpaaGreatDoorTimeBPutTextFldMathFldRiseScanMath
import Derived.Test.YtnjegmffjelnpaaGreatDoorGetValGetTxtNumMathFldRdNumFromTmbMath
import Derived.Handy
import Derived.WalkSpells
import Derived.OwnWalk
import Derived.Deep.Cut
import Derived.Test.YtnjegmffjelnpaaGreatDoorLgMathLgAtKLgAnsLgRtTakesFldIsFldC
import Derived.Test.YtnjegmffjelnpaaGreatDoorAll2LeafNode
import Derived.Test.YtnjegmffjelnpaaGreatDoorFldR
import Derived.Laws.Concat
import Derived.Deep.RegionHeld3
import Derived.Deep.RegionWith
/-
  What the specification's TombRead and LeafKind answer.
  Conditions: the text fits the form's own reach.
-/
namespace Go.Proofs.YtnjegmffjelnpaaGreatDoor
open Go.RowKit Go.Lib
set_option linter.unusedVariables false
set_option maxRecDepth 20000

theorem ba_eq {a b : ByteArray} (h : a.toList = b.toList) : a = b := by
  apply ByteArray.ext; apply Array.ext'
  rw [← ByteArray.toList_eq, ← ByteArray.toList_eq]; exact h
theorem ba_beq (a b : ByteArray) : (a.toList == b.toList) = decide (a = b) := by
  by_cases h : a = b
  · subst h; simp
  · rw [decide_eq_false h]
    exact beq_eq_false_iff_ne.2 (fun e => h (ba_eq e))
theorem ba_nil (a : ByteArray) : a.toList.isEmpty = decide (a.size = 0) := by
  rw [ByteArray.toList_eq]
  by_cases h : a.size = 0
  · rw [decide_eq_true h]
    have : a.data.toList.length = 0 := by rw [sz_list]; exact h
    simp [List.length_eq_zero_iff.1 this]
  · rw [decide_eq_false h]
    cases e : a.data.toList with
    | nil => exfalso; apply h; rw [← sz_list, e]; rfl
    | cons => rfl
/-- A reader's box and a Tomb's beside it. -/
structure RbS (W : World) (P Z : Nat) (t : ByteArray) (a : Int) (bd : Bool) (cs : Array Value) (x : World) : Prop where
  bel : Below W.heap.size W x
  rd : Bxs x P 151 #[.string t, .int .i64 a, .bool bd]
  box : Bxs x Z 72 cs
  hP : W.heap.size ≤ P
  hZ : W.heap.size ≤ Z
  ne : Z ≠ P
theorem RbS.call {W : World} {P Z : Nat} {t : ByteArray} {a a' : Int} {bd bd' : Bool} {cs : Array Value} {x y : World} (h : RbS W P Z t a bd cs x) (hr : Bxs y P 151 #[.string t, .int .i64 a', .bool bd']) (hg : x.grownBy y (some P)) : RbS W P Z t a' bd' cs y :=
  ⟨h.bel.grown hg h.bel.size (fun j hj => by cases hj; exact h.hP), hr, h.box.grown hg (fun e => h.ne (by cases e; rfl)), h.hP, h.hZ, h.ne⟩
theorem RbS.put {W : World} {P Z : Nat} {t : ByteArray} {a : Int} {bd : Bool} {cs : Array Value} {x : World} (h : RbS W P Z t a bd cs x) (i : Nat) (v : Value) : RbS W P Z t a bd (cs.setIfInBounds i v) (x.setCell ⟨Z, i, none⟩ v) :=
  ⟨h.bel.setCell h.hZ _, h.rd.other _ _ h.ne _, h.box.set i v, h.hP, h.hZ, h.ne⟩
theorem trC_bad {t : ByteArray} (h : ¬ 8000 < t.size) (hb : trBad t = true) : trC t = 3 ∧ trO t = tmZ := by
  have hc : trC t = 3 := by unfold trC; rw [if_neg h, if_pos hb]
  exact ⟨hc, by unfold trO; rw [if_neg (by omega)]⟩
theorem trC_good {t : ByteArray} (h : ¬ 8000 < t.size) (hb : trBad t = false) : trC t = 0 ∧ trO t = trT t := by
  have hc : trC t = 0 := by unfold trC; rw [if_neg h, if_neg (by rw [hb]; exact Bool.false_ne_true)]
  exact ⟨hc, by unfold trO; rw [if_pos hc]⟩
set_option maxHeartbeats 4000000 in
theorem specTombRead_any (t : ByteArray) (w : World) (ht : t.size ≤ maxLen) :
    Calls Tryz.prog 99 #[.string t] w fun e w' => e = .returned (tmO (trO t) (trC t)) ∧ Below w.heap.size w w' := by
  obtain ⟨W1, hW1⟩ : ∃ W1, W1 = w.alloc (.cells #[.int .i64 0, .int .i64 0, .int .i64 0, .int .i64 0, .int .i64 0] 122) := ⟨_, rfl⟩
  have HW1 : Hid (W1 = w.alloc (.cells #[.int .i64 0, .int .i64 0, .int .i64 0, .int .i64 0, .int .i64 0] 122)) := hW1
  have HS1 : Hid (W1.heap.size = w.heap.size + 1) := by rw [hW1]; show _ = _; simp
  have K1 : Hid (Bxs W1 w.heap.size 122 #[.int .i64 0, .int .i64 0, .int .i64 0, .int .i64 0, .int .i64 0]) := by rw [hW1]; exact Bxs.new _ _ _
  have B1 : Hid (Below w.heap.size w W1) := by rw [hW1]; exact (Below.refl _ _).alloc (Nat.le_refl _) _
  have HEr : Hid (∀ (y : World) (c : Int) (T : Tmb) (x0 x1 x2 x3 x4 : Value), Below W1.heap.size W1 y → trC t = c → trO t = T → Ending.returned (.agg #[.int .i64 T.r, .int .i64 T.f, .int .i64 T.y, .int .i64 T.a, .int .i64 c]) = .returned (tmO (trO t) (trC t)) ∧ Below w.heap.size w (((((y.setCell ⟨w.heap.size, 0, none⟩ x0).setCell ⟨w.heap.size, 1, none⟩ x1).setCell ⟨w.heap.size, 2, none⟩ x2).setCell ⟨w.heap.size, 3, none⟩ x3).setCell ⟨w.heap.size, 4, none⟩ x4)) := by
    intro y c T x0 x1 x2 x3 x4 hb hc hT
    rw [hc, hT]
    exact ⟨rfl, below_set5 (chainB B1.out hb) (Nat.le_refl _) _ _ _ _ _⟩
  clear hW1
  unfold maxLen at ht
  by_cases h8 : 8000 < t.size
  · have hC : trC t = 2 := if_pos h8
    have hO : trO t = tmZ := if_neg (by rw [hC]; decide)
    have d8 : decide (8000 < (t.size : Int)) = true := decide_eq_true (by omega)
    have HE := fun x0 x1 x2 x3 x4 => HEr.out W1 2 tmZ x0 x1 x2 x3 x4 (Below.refl _ _) hC hO
    rw [HW1.out] at HE
    have HE : Hid _ := HE
    clear HEr h8 hC hO
    go_enter Tryz.func99, Tryz.ntmps99
    go_upto_region 2 with fail
    rw [← HW1.out] at HE ⊢
    obtain ⟨r0, r1, r2, r3, r4⟩ := K1.out.five
    have f0 := K1.out.fr 0
    have f1 := K1.out.fr 1
    have f2 := K1.out.fr 2
    have f3 := K1.out.fr 3
    have f4 := K1.out.fr 4
    go_wp2_with fail
    refine bodyPost_ret (v := .agg #[.int .i64 0, .int .i64 0, .int .i64 0, .int .i64 0, .int .i64 2]) (by simp [results, Tryz.results99, go_sem, r0, r1, r2, r3, r4]) rfl ?_
    exact HE.out _ _ _ _ _
  have d8 : decide (8000 < (t.size : Int)) = false := decide_eq_false (by omega)
  have ht8 : t.size ≤ 8000 := by omega
  obtain ⟨Q, hQw⟩ : ∃ Q, Q = w.heap.size + 1 := ⟨_, rfl⟩
  have hQ : Q = W1.heap.size := by rw [hQw, HS1.out]
  have HNx : Hid (∀ (a : Int) (bd : Bool) (x : World), a ≤ 9223372036854775807 → Bxs x Q 151 #[.string t, .int .i64 a, .bool bd] → Calls Tryz.prog 126 #[.pointer (some ⟨Q, 0, none⟩)] x fun e w' => e = .returned (.int .i64 (rnN t a bd)) ∧ Bxs w' Q 151 #[.string t, .int .i64 (rnA t a bd), .bool (rnB t a bd)] ∧ x.grownBy w' (some Q)) := fun a bd x ha hb => rdNum_any Q t a bd x hb ht8 ha
  have HGood : Hid (trBad t = false → trC t = 0 ∧ trO t = trT t) := trC_good h8
  have HBad : Hid (trBad t = true → trC t = 3 ∧ trO t = tmZ) := trC_bad h8
  have l1 : trA1 t ≤ 9223372036854775807 := rnA_top t 1 false (by omega) ht8
  have l2 : trA2 t ≤ 9223372036854775807 := rnA_top t _ _ l1 ht8
  have l3 : trA3 t ≤ 9223372036854775807 := rnA_top t _ _ l2 ht8
  obtain ⟨n1, hn1⟩ : ∃ n, n = rnN t 1 false := ⟨_, rfl⟩
  obtain ⟨n2, hn2⟩ : ∃ n, n = rnN t (trA1 t) (trB1 t) := ⟨_, rfl⟩
  obtain ⟨n3, hn3⟩ : ∃ n, n = rnN t (trA2 t) (trB2 t) := ⟨_, rfl⟩
  obtain ⟨n4, hn4⟩ : ∃ n, n = rnN t (trA3 t) (trB3 t) := ⟨_, rfl⟩
  obtain ⟨a4, ha4⟩ : ∃ n, n = rnA t (trA3 t) (trB3 t) := ⟨_, rfl⟩
  obtain ⟨b4, hb4⟩ : ∃ n, n = trBd t := ⟨_, rfl⟩
  have HT : Hid (trT t = ⟨n1, n2, n3, n4⟩) := by show _ = _; rw [hn1, hn2, hn3, hn4]; rfl
  have HBd : Hid (trBad t = (b4 || decide (t.size = 0) || !decide (tmT ⟨n1, n2, n3, n4⟩ = t))) := by show _ = _; unfold trBad; rw [HT.out, hb4]
  have C1 : Hid (∀ x, Bxs x Q 151 #[.string t, .int .i64 1, .bool false] → Calls Tryz.prog 126 #[.pointer (some ⟨Q, 0, none⟩)] x fun e w' => e = .returned (.int .i64 n1) ∧ Bxs w' Q 151 #[.string t, .int .i64 (trA1 t), .bool (trB1 t)] ∧ x.grownBy w' (some Q)) := by rw [hn1]; exact fun x hx => HNx.out 1 false x (by omega) hx
  have C2 : Hid (∀ x, Bxs x Q 151 #[.string t, .int .i64 (trA1 t), .bool (trB1 t)] → Calls Tryz.prog 126 #[.pointer (some ⟨Q, 0, none⟩)] x fun e w' => e = .returned (.int .i64 n2) ∧ Bxs w' Q 151 #[.string t, .int .i64 (trA2 t), .bool (trB2 t)] ∧ x.grownBy w' (some Q)) := by rw [hn2]; exact fun x hx => HNx.out _ _ x l1 hx
  have C3 : Hid (∀ x, Bxs x Q 151 #[.string t, .int .i64 (trA2 t), .bool (trB2 t)] → Calls Tryz.prog 126 #[.pointer (some ⟨Q, 0, none⟩)] x fun e w' => e = .returned (.int .i64 n3) ∧ Bxs w' Q 151 #[.string t, .int .i64 (trA3 t), .bool (trB3 t)] ∧ x.grownBy w' (some Q)) := by rw [hn3]; exact fun x hx => HNx.out _ _ x l2 hx
  have C4 : Hid (∀ x, Bxs x Q 151 #[.string t, .int .i64 (trA3 t), .bool (trB3 t)] → Calls Tryz.prog 126 #[.pointer (some ⟨Q, 0, none⟩)] x fun e w' => e = .returned (.int .i64 n4) ∧ Bxs w' Q 151 #[.string t, .int .i64 a4, .bool b4] ∧ x.grownBy w' (some Q)) := by rw [hn4, ha4, hb4]; exact fun x hx => HNx.out _ _ x l3 hx
  have CT : Hid (∀ x, Calls Tryz.prog 38 #[.agg #[.int .i64 n1, .int .i64 n2, .int .i64 n3, .int .i64 n4]] x fun e w' => e = .returned (.string (tmT ⟨n1, n2, n3, n4⟩)) ∧ Below x.heap.size x w') := fun x => specTombText_any ⟨n1, n2, n3, n4⟩ x
  obtain ⟨W2, hW2⟩ : ∃ W2, W2 = W1.alloc (.cells #[.string t, .int .i64 1, .bool false] 151) := ⟨_, rfl⟩
  have KP : Hid (Bxs W2 Q 151 #[.string t, .int .i64 1, .bool false]) := by rw [hW2, hQ]; exact Bxs.new _ _ _
  have B2 : Hid (Below W1.heap.size W1 W2) := by rw [hW2]; exact (Below.refl _ _).alloc (Nat.le_refl _) _
  have HW2 : Hid (W2 = W1.alloc (.cells #[.string t, .int .i64 1, .bool false] 151)) := hW2
  have HQd : Hid (Q = w.heap.size + 1) := hQw
  have HQs : Hid (W1.heap.size ≤ Q) := by show _ ≤ _; omega
  have e0 := ba_nil t
  have eT := ba_beq (tmT ⟨n1, n2, n3, n4⟩) t
  generalize tmT ⟨n1, n2, n3, n4⟩ = TX at *
  have E0 : Hid (t.toList.isEmpty = decide (t.size = 0)) := e0
  have ET : Hid ((TX.toList == t.toList) = decide (TX = t)) := eT
  clear hn1 hn2 hn3 hn4 ha4 hb4 HNx l1 l2 l3 h8 hW2 hQ hQw e0 eT
  go_enter Tryz.func99, Tryz.ntmps99
  go_upto_region 4 with fail
  rw [← HW1.out]
  rw [← HW2.out, ← HQd.out]
  clear HW2 HW1 HQd d8
  go_wp2_with fail
  refine (C1.out W2 KP.out).mono ?_
  rintro e y1 ⟨rfl, kb1, hg1⟩
  go_upto_region 5 with fail
  obtain ⟨y2, hy2⟩ : ∃ y2, y2 = y1.alloc (.cells #[.int .i64 n1, .int .i64 0, .int .i64 0, .int .i64 0] 72) := ⟨_, rfl⟩
  rw [← hy2]
  obtain ⟨Z, hZ⟩ : ∃ Z, Z = y1.heap.size := ⟨_, rfl⟩
  have S2 : RbS W1 Q Z t (trA1 t) (trB1 t) #[.int .i64 n1, .int .i64 0, .int .i64 0, .int .i64 0] y2 := by
    have hz1 := kb1.lt
    have b1 : Below W1.heap.size W1 y1 := B2.out.grown hg1 B2.out.size (fun j hj => by cases hj; exact HQs.out)
    rw [hy2, hZ]
    exact ⟨alB b1 _, kb1.alloc _, Bxs.new _ _ _, HQs.out, b1.size, by omega⟩
  rw [← hZ]
  have S2' : Hid (RbS W1 Q Z t (trA1 t) (trB1 t) #[.int .i64 n1, .int .i64 0, .int .i64 0, .int .i64 0] y2) := S2
  clear hy2 hZ S2 kb1 hg1 KP B2
  go_wp2_with fail
  refine (C2.out y2 S2'.out.rd).mono ?_
  rintro e z1 ⟨rfl, kb, hg⟩
  have S := S2'.out.call kb hg
  have p1 : z1.cell? ⟨Z, 1, none⟩ = some (.int .i64 0) := S.box.cell 1
  have f1 := S.box.fr 1
  have T1 : Hid (RbS W1 Q Z t (trA2 t) (trB2 t) #[.int .i64 n1, .int .i64 n2, .int .i64 0, .int .i64 0] (z1.setCell ⟨Z, 1, none⟩ (.int .i64 n2))) := S.put 1 _
  clear S kb hg S2'
  go_upto_region 6 with fail
  obtain ⟨u1, hu1⟩ : ∃ u1, u1 = z1.setCell ⟨Z, 1, none⟩ (.int .i64 n2) := ⟨_, rfl⟩
  rw [← hu1] at T1 ⊢
  have S3' : Hid (RbS W1 Q Z t (trA2 t) (trB2 t) #[.int .i64 n1, .int .i64 n2, .int .i64 0, .int .i64 0] u1) := T1.out
  clear hu1 T1 p1 f1
  go_wp2_with fail
  refine (C3.out u1 S3'.out.rd).mono ?_
  rintro e z2 ⟨rfl, kb, hg⟩
  have S := S3'.out.call kb hg
  have p2 : z2.cell? ⟨Z, 2, none⟩ = some (.int .i64 0) := S.box.cell 2
  have f2 := S.box.fr 2
  have T2 : Hid (RbS W1 Q Z t (trA3 t) (trB3 t) #[.int .i64 n1, .int .i64 n2, .int .i64 n3, .int .i64 0] (z2.setCell ⟨Z, 2, none⟩ (.int .i64 n3))) := S.put 2 _
  clear S kb hg S3'
  go_upto_region 7 with fail
  obtain ⟨u2, hu2⟩ : ∃ u2, u2 = z2.setCell ⟨Z, 2, none⟩ (.int .i64 n3) := ⟨_, rfl⟩
  rw [← hu2] at T2 ⊢
  have S4' : Hid (RbS W1 Q Z t (trA3 t) (trB3 t) #[.int .i64 n1, .int .i64 n2, .int .i64 n3, .int .i64 0] u2) := T2.out
  clear hu2 T2 p2 f2
  go_wp2_with fail
  refine (C4.out u2 S4'.out.rd).mono ?_
  rintro e z3 ⟨rfl, kb, hg⟩
  have S := S4'.out.call kb hg
  have p3 : z3.cell? ⟨Z, 3, none⟩ = some (.int .i64 0) := S.box.cell 3
  have f3 := S.box.fr 3
  have T3 : Hid (RbS W1 Q Z t a4 b4 #[.int .i64 n1, .int .i64 n2, .int .i64 n3, .int .i64 n4] (z3.setCell ⟨Z, 3, none⟩ (.int .i64 n4))) := S.put 3 _
  clear S kb hg S4'
  go_upto_region 8 with fail
  obtain ⟨u3, hu3⟩ : ∃ u3, u3 = z3.setCell ⟨Z, 3, none⟩ (.int .i64 n4) := ⟨_, rfl⟩
  rw [← hu3] at T3 ⊢
  have S5' : Hid (RbS W1 Q Z t a4 b4 #[.int .i64 n1, .int .i64 n2, .int .i64 n3, .int .i64 n4] u3) := T3.out
  clear hu3 T3 p3 f3
  have q2 : u3.cell? ⟨Q, 2, none⟩ = some (.bool b4) := S5'.out.rd.cell 2
  obtain ⟨c0, c1, c2, c3⟩ := S5'.out.box.four
  have K9 : Hid (Bxs u3 w.heap.size 122 #[.int .i64 0, .int .i64 0, .int .i64 0, .int .i64 0, .int .i64 0]) := K1.out.below S5'.out.bel
  have HE3 : Hid (trBad t = true → ∀ (y : World), Below u3.heap.size u3 y → ∀ x0 x1 x2 x3 x4, Ending.returned (.agg #[.int .i64 0, .int .i64 0, .int .i64 0, .int .i64 0, .int .i64 3]) = .returned (tmO (trO t) (trC t)) ∧ Below w.heap.size w (((((y.setCell ⟨w.heap.size, 0, none⟩ x0).setCell ⟨w.heap.size, 1, none⟩ x1).setCell ⟨w.heap.size, 2, none⟩ x2).setCell ⟨w.heap.size, 3, none⟩ x3).setCell ⟨w.heap.size, 4, none⟩ x4)) := fun h y hy x0 x1 x2 x3 x4 => HEr.out y 3 tmZ x0 x1 x2 x3 x4 (chainB S5'.out.bel hy) (HBad.out h).1 (HBad.out h).2
  have HE0 : Hid (trBad t = false → ∀ (y : World), Below u3.heap.size u3 y → ∀ x0 x1 x2 x3 x4, Ending.returned (.agg #[.int .i64 n1, .int .i64 n2, .int .i64 n3, .int .i64 n4, .int .i64 0]) = .returned (tmO (trO t) (trC t)) ∧ Below w.heap.size w (((((y.setCell ⟨w.heap.size, 0, none⟩ x0).setCell ⟨w.heap.size, 1, none⟩ x1).setCell ⟨w.heap.size, 2, none⟩ x2).setCell ⟨w.heap.size, 3, none⟩ x3).setCell ⟨w.heap.size, 4, none⟩ x4)) := fun h y hy x0 x1 x2 x3 x4 => HEr.out y 0 ⟨n1, n2, n3, n4⟩ x0 x1 x2 x3 x4 (chainB S5'.out.bel hy) (HGood.out h).1 ((HGood.out h).2.trans HT.out)
  have BZ : Hid (Bxs u3 Z 72 #[.int .i64 n1, .int .i64 n2, .int .i64 n3, .int .i64 n4]) := S5'.out.box
  rw [HBd.out] at HE3 HE0
  clear S5' HEr HBad HGood HT HBd C1 C2 C3 C4 K1 B1 HS1
  cases b4 with
  | true =>
    have HE : Hid _ := HE3.out rfl u3 (Below.refl _ _)
    clear HE3 HE0
    obtain ⟨r0, r1, r2, r3, r4⟩ := (K9.out).five
    have f0 := (K9.out).fr 0
    have f1 := (K9.out).fr 1
    have f2 := (K9.out).fr 2
    have f3 := (K9.out).fr 3
    have f4 := (K9.out).fr 4
    go_wp2_with fail
    refine bodyPost_ret (v := .agg #[.int .i64 0, .int .i64 0, .int .i64 0, .int .i64 0, .int .i64 3]) (by simp [results, Tryz.results99, go_sem, r0, r1, r2, r3, r4]) rfl ?_
    exact HE.out _ _ _ _ _
  | false =>
  cases h0 : t.toList.isEmpty with
  | true =>
    have d0 : decide (t.size = 0) = true := by rw [← E0.out]; exact h0
    have HE : Hid _ := HE3.out (by rw [d0]; rfl) u3 (Below.refl _ _)
    clear HE3 HE0 d0 E0
    obtain ⟨r0, r1, r2, r3, r4⟩ := (K9.out).five
    have f0 := (K9.out).fr 0
    have f1 := (K9.out).fr 1
    have f2 := (K9.out).fr 2
    have f3 := (K9.out).fr 3
    have f4 := (K9.out).fr 4
    go_wp2_with fail
    refine bodyPost_ret (v := .agg #[.int .i64 0, .int .i64 0, .int .i64 0, .int .i64 0, .int .i64 3]) (by simp [results, Tryz.results99, go_sem, r0, r1, r2, r3, r4]) rfl ?_
    exact HE.out _ _ _ _ _
  | false =>
    have d0 : decide (t.size = 0) = false := by rw [← E0.out]; exact h0
    cases h1 : (TX.toList == t.toList) with
    | false =>
      have d1 : decide (TX = t) = false := by rw [← ET.out]; exact h1
      have HE3' : Hid (∀ (y : World), Below u3.heap.size u3 y → ∀ x0 x1 x2 x3 x4, Ending.returned (.agg #[.int .i64 0, .int .i64 0, .int .i64 0, .int .i64 0, .int .i64 3]) = .returned (tmO (trO t) (trC t)) ∧ Below w.heap.size w (((((y.setCell ⟨w.heap.size, 0, none⟩ x0).setCell ⟨w.heap.size, 1, none⟩ x1).setCell ⟨w.heap.size, 2, none⟩ x2).setCell ⟨w.heap.size, 3, none⟩ x3).setCell ⟨w.heap.size, 4, none⟩ x4)) := HE3.out (by rw [d0, d1]; rfl)
      clear HE3 HE0 d0 d1 E0 ET
      go_wp2_with fail
      refine (CT.out u3).mono ?_
      rintro e y9 ⟨rfl, b9⟩
      have HE : Hid _ := HE3'.out y9 b9
      have KK := K9.out.below b9
      clear HE3' 
      obtain ⟨r0, r1, r2, r3, r4⟩ := (KK).five
      have f0 := (KK).fr 0
      have f1 := (KK).fr 1
      have f2 := (KK).fr 2
      have f3 := (KK).fr 3
      have f4 := (KK).fr 4
      clear KK K9 b9
      go_wp2_with fail
      refine bodyPost_ret (v := .agg #[.int .i64 0, .int .i64 0, .int .i64 0, .int .i64 0, .int .i64 3]) (by simp [results, Tryz.results99, go_sem, r0, r1, r2, r3, r4]) rfl ?_
      exact HE.out _ _ _ _ _
    | true =>
      have d1 : decide (TX = t) = true := by rw [← ET.out]; exact h1
      have HE0' : Hid (∀ (y : World), Below u3.heap.size u3 y → ∀ x0 x1 x2 x3 x4, Ending.returned (.agg #[.int .i64 n1, .int .i64 n2, .int .i64 n3, .int .i64 n4, .int .i64 0]) = .returned (tmO (trO t) (trC t)) ∧ Below w.heap.size w (((((y.setCell ⟨w.heap.size, 0, none⟩ x0).setCell ⟨w.heap.size, 1, none⟩ x1).setCell ⟨w.heap.size, 2, none⟩ x2).setCell ⟨w.heap.size, 3, none⟩ x3).setCell ⟨w.heap.size, 4, none⟩ x4)) := HE0.out (by rw [d0, d1]; rfl)
      clear HE3 HE0 d0 d1 E0 ET
      go_wp2_with fail
      refine (CT.out u3).mono ?_
      rintro e y9 ⟨rfl, b9⟩
      have HE : Hid _ := HE0'.out y9 b9
      have KK := K9.out.below b9
      obtain ⟨c0, c1, c2, c3⟩ := (BZ.out.below b9).four
      clear HE0' 
      obtain ⟨r0, r1, r2, r3, r4⟩ := (KK).five
      have f0 := (KK).fr 0
      have f1 := (KK).fr 1
      have f2 := (KK).fr 2
      have f3 := (KK).fr 3
      have f4 := (KK).fr 4
      clear KK K9 b9 BZ
      go_wp2_with fail
      refine bodyPost_ret (v := .agg #[.int .i64 n1, .int .i64 n2, .int .i64 n3, .int .i64 n4, .int .i64 0]) (by simp [results, Tryz.results99, go_sem, r0, r1, r2, r3, r4]) rfl ?_
      exact HE.out _ _ _ _ _
end Go.Proofs.YtnjegmffjelnpaaGreatDoor
/-
  The place of a field's note and whether a field is gone, as the specification answers.
  Conditions: the cells hold the leaves and rows.
-/
namespace Go.Proofs.YtnjegmffjelnpaaGreatDoor
open Go.RowKit Go.Lib
set_option linter.unusedVariables false
set_option maxRecDepth 20000

theorem tb_next (lv : List ByteArray) (r f : Int) (k : Nat) (h : k < lv.length) : tbFrom r f k (lv.drop k) = if tmHit r f lv[k] = true then (k : Int) else tbFrom r f (k + 1) (lv.drop (k + 1)) := by
  rw [List.drop_eq_getElem_cons h, tbFrom]
theorem tmHit_eq (r f : Int) (t : ByteArray) : tmHit r f t = ((trC t == 0) && (((trO t).r == r) && ((trO t).f == f))) := by
  unfold tmHit
  rw [Bool.eq_iff_iff]
  simp only [Bool.and_eq_true, decide_eq_true_iff, beq_iff_eq]
set_option maxHeartbeats 4000000 in
theorem l09Tomb_any (p : Option Addr) (lv : List ByteArray) (cp : Nat) (r f : Int) (w : World) (hL : TxtAt w p lv) (hl : lv.length ≤ 1048576) (hc : lv.length ≤ cp) (hz : TxtsLe lv) :
    Calls Tryz.prog 56 #[.slice p lv.length cp, .int .i64 r, .int .i64 f] w fun e w' => e = .returned (.int .i64 (tbAt lv r f)) ∧ Below w.heap.size w w' := by
  have HL : Hid (TxtAt w p lv) := hL
  have HZ : Hid (TxtsLe lv) := hz
  clear hL hz
  go_enter Tryz.func56, Tryz.ntmps56
  go_wp2_with fail
  go_loopw [7] (fun i wr => ∃ k : Nat, k ≤ lv.length ∧ i = .int .i64 k ∧ Hid (Below w.heap.size w wr) ∧ Hid (tbAt lv r f = tbFrom r f k (lv.drop k))) (fun i _ => lv.length - (Go.RowKit.intOf i).toNat)
  case atStart => exact ⟨0, Nat.zero_le _, rfl, Below.refl _ _, rfl⟩
  case round =>
    obtain ⟨k, hk, rfl, HB, HV⟩ := hrel
    by_cases hlt : k < lv.length
    · have i1 : (k : Int) < lv.length := by omega
      obtain ⟨b, off, rfl, hb0, c0⟩ := (HL.out.below HB.out) k hlt
      have hR := specTombRead_any lv[k] wr (HZ.out _ (List.getElem_mem hlt))
      have HS : Hid (tbAt lv r f = if tmHit r f lv[k] = true then (k : Int) else tbFrom r f (k + 1) (lv.drop (k + 1))) := HV.out.trans (tb_next lv r f k hlt)
      have HH : Hid (tmHit r f lv[k] = _) := tmHit_eq r f lv[k]
      have HG : Hid (tmHit r f lv[k] = false → tbAt lv r f = tbFrom r f (k + 1) (lv.drop (k + 1))) := fun h => by rw [HS.out, h, if_neg Bool.false_ne_true]
      unfold tmO at hR
      generalize lv[k] = t at *
      generalize trC t = C at *
      generalize (trO t).r = n1 at *
      generalize (trO t).f = n2 at *
      generalize (trO t).y = n3 at *
      generalize (trO t).a = n4 at *
      clear HV hb0
      cases hC : (C == 0) with
      | false =>
        rw [hC, Bool.false_and] at HH
        have HN := HG.out HH.out
        have HN2 : Hid (tbAt lv r f = tbFrom r f (k + 1) (lv.drop (k + 1))) := HN
        clear HS HH HG HN
        go_wp2_with fail
        refine hR.mono ?_
        rintro e y ⟨rfl, by_⟩
        have HBy : Hid (Below w.heap.size w (y.alloc (.cells #[.int .i64 n1, .int .i64 n2, .int .i64 n3, .int .i64 n4, .int .i64 C] 122))) := alB (chainB HB.out by_) _
        go_wp2_with fail
        go_roundw
        case rel => exact ⟨k + 1, by omega, by simp, HBy.out, HN2.out⟩
        case measure => simp [Go.RowKit.intOf]; omega
      | true =>
        rw [hC, Bool.true_and] at HH
        cases h1 : (n1 == r) with
        | false =>
          rw [h1, Bool.false_and] at HH
          have HN := HG.out HH.out
          have HN2 : Hid (tbAt lv r f = tbFrom r f (k + 1) (lv.drop (k + 1))) := HN
          clear HS HH HG HN
          go_wp2_with fail
          refine hR.mono ?_
          rintro e y ⟨rfl, by_⟩
          have HBy : Hid (Below w.heap.size w (y.alloc (.cells #[.int .i64 n1, .int .i64 n2, .int .i64 n3, .int .i64 n4, .int .i64 C] 122))) := alB (chainB HB.out by_) _
          go_wp2_with fail
          go_roundw
          case rel => exact ⟨k + 1, by omega, by simp, HBy.out, HN2.out⟩
          case measure => simp [Go.RowKit.intOf]; omega
        | true =>
          rw [h1, Bool.true_and] at HH
          cases h2 : (n2 == f) with
          | false =>
            rw [h2] at HH
            have HN := HG.out HH.out
            have HN2 : Hid (tbAt lv r f = tbFrom r f (k + 1) (lv.drop (k + 1))) := HN
            clear HS HH HG HN
            go_wp2_with fail
            refine hR.mono ?_
            rintro e y ⟨rfl, by_⟩
            have HBy : Hid (Below w.heap.size w (y.alloc (.cells #[.int .i64 n1, .int .i64 n2, .int .i64 n3, .int .i64 n4, .int .i64 C] 122))) := alB (chainB HB.out by_) _
            go_wp2_with fail
            go_roundw
            case rel => exact ⟨k + 1, by omega, by simp, HBy.out, HN2.out⟩
            case measure => simp [Go.RowKit.intOf]; omega
          | true =>
            rw [h2] at HH
            rw [HH.out, if_pos rfl] at HS
            clear HH HG
            go_wp2_with fail
            refine hR.mono ?_
            rintro e y ⟨rfl, by_⟩
            have HBy : Hid (Below w.heap.size w (y.alloc (.cells #[.int .i64 n1, .int .i64 n2, .int .i64 n3, .int .i64 n4, .int .i64 C] 122))) := alB (chainB HB.out by_) _
            go_wp2_with fail
            go_ret
            exact ⟨by rw [HS.out]; rfl, HBy.out⟩
    · obtain rfl : k = lv.length := by omega
      have HE : Hid (tbAt lv r f = -1) := by show _ = _; rw [HV.out, List.drop_length]; rfl
      clear HV
      go_wp2_with fail
      go_ret
      exact ⟨by rw [HE.out]; rfl, HB.out⟩
set_option maxHeartbeats 4000000 in
theorem l09Gone_any (p : Option Addr) (lv : List ByteArray) (cp : Nat) (q : Option Addr) (rs : List Rw) (cq : Nat) (now : Int) (r f : Int) (w : World) (hR : RwAt w q rs) (hn : rs.length ≤ 1048576) (hcq : rs.length ≤ cq) (hz : ∀ r ∈ rs, r.fs.length ≤ 1048576) :
    Calls Tryz.prog 100 #[.agg #[.slice q rs.length cq, .slice p lv.length cp, .int .i64 now], .int .i64 r, .int .i64 f] w fun e w' => e = .returned (.bool (goneAt rs r f)) ∧ Below w.heap.size w w' := by
  obtain ⟨W1, hW1⟩ : ∃ W1, W1 = w.alloc (.cells #[.slice q rs.length cq, .slice p lv.length cp, .int .i64 now] 26) := ⟨_, rfl⟩
  have HW1 : Hid (W1 = w.alloc (.cells #[.slice q rs.length cq, .slice p lv.length cp, .int .i64 now] 26)) := hW1
  have B1 : Hid (Below w.heap.size w W1) := by rw [hW1]; exact (Below.refl _ _).alloc (Nat.le_refl _) _
  have K1 : Hid (Bxs W1 w.heap.size 26 #[.slice q rs.length cq, .slice p lv.length cp, .int .i64 now]) := by rw [hW1]; exact Bxs.new _ _ _
  have HR : Hid (RwAt W1 q rs) := hR.below B1.out
  have HI1 := l07Is_any r 0 ((rs.length : Int) - 1) W1
  have x0 := K1.out.cell 0
  by_cases h1 : 0 ≤ r ∧ r ≤ (rs.length : Int) - 1
  · rw [decide_eq_true h1] at HI1
    have hrl : r.toNat < rs.length := by omega
    have hre : (r.toNat : Int) = r := Int.toNat_of_nonneg h1.1
    obtain ⟨I, rfl⟩ : ∃ I : Nat, r = (I : Int) := ⟨r.toNat, hre.symm⟩
    rw [Int.toNat_natCast] at hrl
    obtain ⟨b, off, rq, rc, rfl, hb0, c0, c1, c2, c3, c4⟩ := HR.out I hrl
    have hrI : rs.getD I rwZ = rs[I] := by rw [List.getD_eq_getElem?_getD, List.getElem?_eq_getElem hrl, Option.getD_some]
    have hfz := hz _ (List.getElem_mem hrl)
    have HI2 := l07Is_any f 0 ((rs[I].fs.length : Int) - 1) W1
    by_cases h2 : 0 ≤ f ∧ f ≤ (rs[I].fs.length : Int) - 1
    · rw [decide_eq_true h2] at HI2
      have hfl : f.toNat < rs[I].fs.length := by omega
      obtain ⟨F, rfl⟩ : ∃ F : Nat, f = (F : Int) := ⟨f.toNat, (Int.toNat_of_nonneg h2.1).symm⟩
      rw [Int.toNat_natCast] at hfl
      obtain ⟨bf, of, rfl, hbf, f0, f1, f2, f3, f4⟩ := c4 F hfl
      have HV : Hid (goneAt rs (I : Int) (F : Int) = rs[I].fs[F].g) := by
        show _ = _
        unfold goneAt fldOf
        rw [decide_eq_true h1, Int.toNat_natCast, Int.toNat_natCast, hrI, decide_eq_true h2, List.getD_eq_getElem?_getD, List.getElem?_eq_getElem hfl, Option.getD_some]; rfl
      rw [HV.out]
      clear f0 f1 f2 f3 HV
      generalize rs[I].fs[F].g = G at *
      have iI : (I : Int) < rs.length := by omega
      have fI : (F : Int) < rs[I].fs.length := by omega
      clear hfl c4 c0 c1
      generalize rs[I].fs.length = FL at *
      clear hW1 hR HR hz c3 hrI h1 h2 hre hb0 hbf
      rw [HW1.out] at x0 c2 f4 HI1 HI2
      go_enter Tryz.func100, Tryz.ntmps100
      go_wp2_with (first | (go_at_call 80; with_reducible refine HI1.mono ?_; rintro e y ⟨rfl, rfl⟩) | (go_at_call 80; with_reducible refine HI2.mono ?_; rintro e y ⟨rfl, rfl⟩))
      go_ret
      rw [← HW1.out]
      exact ⟨rfl, B1.out⟩
    · rw [decide_eq_false h2] at HI2
      have HV : Hid (goneAt rs (I : Int) f = false) := by
        show _ = _
        unfold goneAt
        rw [Int.toNat_natCast, hrI, decide_eq_false h2, Bool.false_and, Bool.and_false]
      rw [HV.out]
      have iI : (I : Int) < rs.length := by omega
      generalize rs[I].fs.length = FL at *
      clear hW1 hR HR hz HV c0 c1 c3 c4 hrI h1 h2 hre hb0
      rw [HW1.out] at x0 c2 HI1 HI2
      go_enter Tryz.func100, Tryz.ntmps100
      go_wp2_with (first | (go_at_call 80; with_reducible refine HI1.mono ?_; rintro e y ⟨rfl, rfl⟩) | (go_at_call 80; with_reducible refine HI2.mono ?_; rintro e y ⟨rfl, rfl⟩))
      go_ret
      rw [← HW1.out]
      exact ⟨rfl, B1.out⟩
  · rw [decide_eq_false h1] at HI1
    have HV : Hid (goneAt rs r f = false) := by
      show _ = _
      unfold goneAt
      rw [decide_eq_false h1, Bool.false_and]
    rw [HV.out]
    clear hW1 hR HR hz HV h1
    rw [HW1.out] at x0 HI1
    go_enter Tryz.func100, Tryz.ntmps100
    go_wp2_with (first | (go_at_call 80; with_reducible refine HI1.mono ?_; rintro e y ⟨rfl, rfl⟩))
    go_ret
    rw [← HW1.out]
    exact ⟨rfl, B1.out⟩
end Go.Proofs.YtnjegmffjelnpaaGreatDoor
/-
  What the specification's l07Leaf and RowLeaf answer.
  Conditions: the cells of Fields hold the fields.
-/
namespace Go.Proofs.YtnjegmffjelnpaaGreatDoor
open Go.RowKit Go.Lib
set_option linter.unusedVariables false
set_option maxRecDepth 20000

theorem putB_ten7 (n : Int) : (putB n).size ≤ 10 := by unfold putB; rw [strOfNums_size]; exact putI_len 9 _
theorem lfTo_drop (t : ByteArray) (fs : List Fld) (i : Nat) (h : i < fs.length) : lfTo t (fs.drop i) = lfTo (t ++ putTextB fs[i].n ++ putTextB fs[i].c) (fs.drop (i + 1)) := by
  rw [List.drop_eq_getElem_cons h]; rfl
set_option maxHeartbeats 4000000 in
theorem l07Leaf_any (k : ByteArray) (at_ : Int) (q : Option Addr) (c : Nat) (fs : List Fld) (w : World) (hf : FldAt w q fs) (hc : fs.length ≤ c) (hr : rwB k at_ fs = true) :
    Calls Tryz.prog 76 #[.agg #[.string k, .int .i64 at_, .slice q fs.length c]] w fun e w' => e = .returned (.string (one101 ++ digB (lfT k at_ fs))) ∧ Below w.heap.size w w' := by
  obtain ⟨r1, r2, r3, r4, r5⟩ := rwB_parts hr
  obtain ⟨hl1, hl3⟩ := r3
  have hk1 := nrB_le r1
  have HZ : Hid (∀ i (h : i < fs.length), fs[i].n.size ≤ 20 ∧ fs[i].c.size = 32) := fun i h => by
    obtain ⟨g1, g2, -⟩ := fdB_parts (r4 _ (List.getElem_mem h))
    exact ⟨(nrB_le g1).2, g2⟩
  clear r4 r5 hr r1
  obtain ⟨W1, hW1⟩ : ∃ W1, W1 = w.alloc (.cells #[.string k, .int .i64 at_, .slice q fs.length c] 65) := ⟨_, rfl⟩
  have HW1 : Hid (W1 = w.alloc (.cells #[.string k, .int .i64 at_, .slice q fs.length c] 65)) := hW1
  have B1 : Hid (Below w.heap.size w W1) := by rw [hW1]; exact (Below.refl _ _).alloc (Nat.le_refl _) _
  have K1 : Hid (Bxs W1 w.heap.size 65 #[.string k, .int .i64 at_, .slice q fs.length c]) := by rw [hW1]; exact Bxs.new _ _ _
  have HT : Hid (FldAt W1 q fs) := hf.below B1.out
  obtain ⟨b, off, rfl, hb0⟩ := HT.out.some_of (by omega)
  have HX : Hid (∀ x, Below W1.heap.size W1 x → x.cell? ⟨w.heap.size, 0, none⟩ = some (.string k) ∧ x.cell? ⟨w.heap.size, 1, none⟩ = some (.int .i64 at_) ∧ x.cell? ⟨w.heap.size, 2, none⟩ = some (.slice (some ⟨b, off, none⟩) fs.length c)) := fun x hb => ⟨(K1.out.below hb).cell 0, (K1.out.below hb).cell 1, (K1.out.below hb).cell 2⟩
  have BW : Hid (Below W1.heap.size W1 W1) := Below.refl _ _
  obtain ⟨x0, x1, x2⟩ := HX.out W1 BW.out
  have QK : Hid (∀ x, Below W1.heap.size W1 x → Calls Tryz.prog 60 #[.string k] x fun e w' => e = .returned (.string (putTextB k)) ∧ Below W1.heap.size W1 w') := fun x hb => (specPutText_any k x (by unfold maxLen; omega)).mono (by rintro e x1 ⟨rfl, b⟩; exact ⟨rfl, chainB hb b⟩)
  have QA : Hid (∀ x, Below W1.heap.size W1 x → Calls Tryz.prog 59 #[.int .i64 at_] x fun e w' => e = .returned (.string (putB at_)) ∧ Below W1.heap.size W1 w') := fun x hb => (specPutNum_any at_ x (by omega) (by omega)).mono (by rintro e x1 ⟨rfl, b⟩; exact ⟨rfl, chainB hb b⟩)
  have QL : Hid (∀ x, Below W1.heap.size W1 x → Calls Tryz.prog 59 #[.int .i64 (fs.length : Int)] x fun e w' => e = .returned (.string (putB (fs.length : Int))) ∧ Below W1.heap.size W1 w') := fun x hb => (specPutNum_any _ x (by omega) (by omega)).mono (by rintro e x1 ⟨rfl, b⟩; exact ⟨rfl, chainB hb b⟩)
  have QT : Hid (∀ i (h : i < fs.length) x, Below W1.heap.size W1 x → (Calls Tryz.prog 60 #[.string fs[i].n] x fun e w' => e = .returned (.string (putTextB fs[i].n)) ∧ Below W1.heap.size W1 w') ∧ (Calls Tryz.prog 60 #[.string fs[i].c] x fun e w' => e = .returned (.string (putTextB fs[i].c)) ∧ Below W1.heap.size W1 w')) := fun i h x hb => by
    have := HZ.out i h
    exact ⟨(specPutText_any _ x (by unfold maxLen; omega)).mono (by rintro e x1 ⟨rfl, b⟩; exact ⟨rfl, chainB hb b⟩), (specPutText_any _ x (by unfold maxLen; omega)).mono (by rintro e x1 ⟨rfl, b⟩; exact ⟨rfl, chainB hb b⟩)⟩
  have HD : Hid (∀ T : ByteArray, T.size ≤ 10000 → ∀ x, Below W1.heap.size W1 x → Calls Tryz.prog 66 #[.string T] x fun e w' => e = .returned (.string (digB T)) ∧ Below W1.heap.size W1 w') := fun T hT x hb => (specAll_any T x (by omega)).mono (by rintro e x1 ⟨rfl, b⟩; exact ⟨rfl, chainB hb b⟩)
  have HV : Hid (lfTo (putTextB k ++ putB at_ ++ putB (fs.length : Int)) fs = lfT k at_ fs) := rfl
  have t1 := putTextB_le k (by omega)
  have t2 := putB_ten7 at_
  have t3 := putB_ten7 (fs.length : Int)
  have t4 : (putTextB k ++ putB at_).size ≤ 40 := by rw [ByteArray.size_append]; omega
  have u1 : ∀ w, (Op.stringOp .add (putTextB k) (putB at_)).run Tryz.prog w = .ok (.string (putTextB k ++ putB at_)) w := fun w => run_string_add w _ _ (by omega) (by omega)
  have u2 : ∀ w, (Op.stringOp .add (putTextB k ++ putB at_) (putB (fs.length : Int))).run Tryz.prog w = .ok (.string (putTextB k ++ putB at_ ++ putB (fs.length : Int))) w := fun w => run_string_add w _ _ (by omega) (by omega)
  have HS : Hid ((putTextB k ++ putB at_ ++ putB (fs.length : Int)).size ≤ 50) := by show _ ≤ _; rw [ByteArray.size_append]; omega
  have HO : Hid (one101 = (⟨#[101]⟩ : ByteArray)) := rfl
  clear hW1 hf
  generalize putTextB k = A at *
  generalize putB at_ = B at *
  generalize putB (fs.length : Int) = C at *
  generalize lfT k at_ fs = L at *
  rw [HO.out]
  go_enter Tryz.func76, Tryz.ntmps76
  go_wp2_with fail
  rw [← HW1.out]
  first
    | (go_region_held3 (fun w' => w'.cell? ⟨w.heap.size, 0, none⟩ = some (.string k) ∧ w'.cell? ⟨w.heap.size, 1, none⟩ = some (.int .i64 at_) ∧ w'.cell? ⟨w.heap.size, 2, none⟩ = some (.slice (some ⟨b, off, none⟩) fs.length c)) ((refine HX.out _ ?hT; (case hT => (with_reducible repeat (first | assumption | exact BW.out | refine Below.drew ?_ | refine alB ?_ _))))) (first
      | (go_at_call 60; with_reducible refine (QK.out _ ?hB).mono ?_; (case hB => first | exact BW.out | exact BW.out.drew); rintro e v1 ⟨rfl, y1⟩)
      | (go_at_call 59; with_reducible refine (QA.out _ ?hB).mono ?_; (case hB => first | exact y1 | exact y1.drew); rintro e v2 ⟨rfl, y2⟩)
      | (go_at_call 59; with_reducible refine (QL.out _ ?hB).mono ?_; (case hB => first | exact y2 | exact y2.drew); rintro e v3 ⟨rfl, y3⟩)))
    | fail
  clear t1 t2 t3 t4 u1 u2 QK QA QL
  go_wp2_with fail
  go_loopw [4, 3] (fun i t wr => ∃ (k : Nat) (T : ByteArray), k ≤ fs.length ∧ i = .int .i64 k ∧ t = .string T ∧ T.size ≤ 50 + 100 * k ∧ Hid (lfTo T (fs.drop k) = L) ∧ Hid (Below W1.heap.size W1 wr)) (fun i _ _ => fs.length - (Go.RowKit.intOf i).toNat)
  case atStart => exact ⟨0, _, Nat.zero_le _, rfl, rfl, HS.out, HV.out, y3⟩
  case round =>
    obtain ⟨i, T, hi, rfl, rfl, hT, HL, HB⟩ := hrel
    obtain ⟨x0, x1, x2⟩ := HX.out wr HB.out
    by_cases hlt : i < fs.length
    · have i1 : (i : Int) < fs.length := by omega
      have HC : Hid (∀ x, Below W1.heap.size W1 x → x.cell? ⟨b, off + i * 5, none⟩ = some (.string fs[i].n) ∧ x.cell? ⟨b, off + i * 5 + 1, none⟩ = some (.string fs[i].c)) := fun x hx => ⟨((HT.out.below hx).at i hlt).1, ((HT.out.below hx).at i hlt).2.1⟩
      have HXr : Hid (∀ x, Below W1.heap.size W1 x → x.cell? ⟨w.heap.size, 2, none⟩ = some (.slice (some ⟨b, off, none⟩) fs.length c)) := fun x hx => (HX.out x hx).2.2
      have HY : Hid (∀ x, Below W1.heap.size W1 x → x.cell? ⟨w.heap.size, 2, none⟩ = some (.slice (some ⟨b, off, none⟩) fs.length c) ∧ x.cell? ⟨b, off + i * 5, none⟩ = some (.string fs[i].n) ∧ x.cell? ⟨b, off + i * 5 + 1, none⟩ = some (.string fs[i].c)) := fun x hx => ⟨HXr.out x hx, HC.out x hx⟩
      have hq := QT.out i hlt
      have QN : Hid (∀ x, Below W1.heap.size W1 x → Calls Tryz.prog 60 #[.string fs[i].n] x fun e w' => e = .returned (.string (putTextB fs[i].n)) ∧ Below W1.heap.size W1 w') := fun x hx => (hq x hx).1
      have QC : Hid (∀ x, Below W1.heap.size W1 x → Calls Tryz.prog 60 #[.string fs[i].c] x fun e w' => e = .returned (.string (putTextB fs[i].c)) ∧ Below W1.heap.size W1 w') := fun x hx => (hq x hx).2
      have hz := HZ.out i hlt
      have s1 := putTextB_le fs[i].n (by omega)
      have s2 := putTextB_le fs[i].c (by omega)
      have HL2 : Hid (lfTo (T ++ putTextB fs[i].n ++ putTextB fs[i].c) (fs.drop (i + 1)) = L) := by show _ = _; rw [← lfTo_drop T fs i hlt]; exact HL.out
      obtain ⟨c0, c1⟩ := HC.out wr HB.out
      have s3 : (T ++ putTextB fs[i].n).size ≤ 1000 := by rw [ByteArray.size_append]; omega
      have u3 : ∀ w, (Op.stringOp .add T (putTextB fs[i].n)).run Tryz.prog w = .ok (.string (T ++ putTextB fs[i].n)) w := fun w => run_string_add w _ _ (by omega) (by omega)
      have u4 : ∀ w, (Op.stringOp .add (T ++ putTextB fs[i].n) (putTextB fs[i].c)).run Tryz.prog w = .ok (.string (T ++ putTextB fs[i].n ++ putTextB fs[i].c)) w := fun w => run_string_add w _ _ (by omega) (by omega)
      have HS2 : Hid ((T ++ putTextB fs[i].n ++ putTextB fs[i].c).size ≤ 50 + 100 * (i + 1)) := by show _ ≤ _; rw [ByteArray.size_append, ByteArray.size_append]; omega
      generalize putTextB fs[i].n = D at *
      generalize putTextB fs[i].c = E at *
      generalize fs[i].n = fn at *
      generalize fs[i].c = fc at *
      clear hz HL hq s1 s2 s3
      go_upto_region 5 with fail
      first
        | (go_region_held3 (fun w' => w'.cell? ⟨w.heap.size, 2, none⟩ = some (.slice (some ⟨b, off, none⟩) fs.length c) ∧ w'.cell? ⟨b, off + i * 5, none⟩ = some (.string fn) ∧ w'.cell? ⟨b, off + i * 5 + 1, none⟩ = some (.string fc)) ((refine HY.out _ ?hT; (case hT => (with_reducible repeat (first | assumption | exact HB.out | refine Below.drew ?_ | refine alB ?_ _))))) (first
          | (go_at_call 60; with_reducible refine (QN.out _ ?hB).mono ?_; (case hB => first | exact HB.out | exact HB.out.drew); rintro e z1 ⟨rfl, y4⟩)
          | (go_at_call 60; with_reducible refine (QC.out _ ?hB).mono ?_; (case hB => first | exact y4 | exact y4.drew); rintro e z2 ⟨rfl, y5⟩)))
        | fail
      go_wp2_with fail
      go_roundw
      case rel => exact ⟨i + 1, _, by omega, by go_num, rfl, HS2.out, HL2, y5⟩
      case measure => simp [Go.RowKit.intOf]; omega
    · obtain rfl : i = fs.length := by omega
      have HL2 : Hid (T = L) := by
        have h := HL.out
        rw [List.drop_eq_nil_of_le (Nat.le_refl _)] at h
        exact h
      obtain rfl := HL2.out
      have hD := HD.out T (by omega) wr HB.out
      have hds : (digB T).size = 32 := digB_size T
      have hz : ((⟨#[101]⟩ : ByteArray) ++ digB T).size = 33 := by rw [ByteArray.size_append, hds]; rfl
      clear HL
      go_wp2_with fail
      refine hD.mono ?_
      rintro e w5 ⟨rfl, b5⟩
      have b5 := chainB B1.out b5
      go_wp2_with fail
      go_ret
      exact ⟨rfl, b5⟩
end Go.Proofs.YtnjegmffjelnpaaGreatDoor
