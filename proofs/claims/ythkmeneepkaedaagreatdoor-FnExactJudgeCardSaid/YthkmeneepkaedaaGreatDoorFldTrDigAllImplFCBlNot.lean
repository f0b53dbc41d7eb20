/-
  Parts of one proof, laid as one text: FldTr, DigAll, ImplFC, BlNot; what each says stands at its head.
-/
import Derived.Test.YthkmeneepkaedaaGreatDoorRows
import Derived.Test.YthkmeneepkaedaaGreatDoorBytesDigMath
import Derived.Test.YthkmeneepkaedaaGreatDoorTimeBPutMathPutNumJoinedPutTextFldMath
import Derived.Test.YthkmeneepkaedaaGreatDoorTreeMathSlASlBBxKOwnS
import Derived.Test.YthkmeneepkaedaaGreatDoorPathIFldIsLgRtTimeIGrKSpecGNSpecGT
import Derived.Test.YthkmeneepkaedaaGreatDoorFldGShwKFldHTakesAudMathLawAuOpAuFldRiseScanMath
import Derived.Test.YthkmeneepkaedaaGreatDoorGetValGetTxtNumMathFldRdNumFromTmbMathLgMath
import Derived.Test.YthkmeneepkaedaaGreatDoorFldNFldTb
import Derived.Handy
import Derived.WalkSpells
import Derived.OwnWalk
import Derived.Deep.Cut
import Derived.Test.YthkmeneepkaedaaGreatDoorBlockIPadIDigITurn2
import Derived.Test.YthkmeneepkaedaaGreatDoorNameRight
import Derived.Laws.StructEq
import Derived.Deep.RegionHeld3
import Derived.Deep.RegionWith
/-
  What the specification's TombRead and LeafKind answer.
  Conditions: the text fits the form's own reach.
-/
namespace Go.Proofs.YthkmeneepkaedaaGreatDoor
open Go.RowKit Go.Lib
set_option linter.unusedVariables false
set_option maxRecDepth 20000

theorem ba_eq {a b : ByteArray} (h : a.toList = b.toList) : a = b := by
  apply ByteArray.ext; apply Array.ext'
  rw [← ByteArray.toList_eq, ← ByteArray.toList_eq]; exact h
theorem ba_beq (a b : ByteArray) : (a.toList == b.toList) = decide (a = b) := by
  by_cases h : a = b
  · subst h; simp
  · rw [decide_eq_false h]
    exact beq_eq_false_iff_ne.2 (fun e => h (ba_eq e))
theorem ba_nil (a : ByteArray) : a.toList.isEmpty = decide (a.size = 0) := by
  rw [ByteArray.toList_eq]
  by_cases h : a.size = 0
  · rw [decide_eq_true h]
    have : a.data.toList.length = 0 := by rw [sz_list]; exact h
    simp [List.length_eq_zero_iff.1 this]
  · rw [decide_eq_false h]
    cases e : a.data.toList with
    | nil => exfalso; apply h; rw [← sz_list, e]; rfl
    | cons => rfl
/-- A reader's box and a Tomb's beside it. -/
structure RbS (W : World) (P Z : Nat) (t : ByteArray) (a : Int) (bd : Bool) (cs : Array Value) (x : World) : Prop where
  bel : Below W.heap.size W x
  rd : Bxs x P 138 #[.string t, .int .i64 a, .bool bd]
  box : Bxs x Z 95 cs
  hP : W.heap.size ≤ P
  hZ : W.heap.size ≤ Z
  ne : Z ≠ P
theorem RbS.call {W : World} {P Z : Nat} {t : ByteArray} {a a' : Int} {bd bd' : Bool} {cs : Array Value} {x y : World} (h : RbS W P Z t a bd cs x) (hr : Bxs y P 138 #[.string t, .int .i64 a', .bool bd']) (hg : x.grownBy y (some P)) : RbS W P Z t a' bd' cs y :=
  ⟨h.bel.grown hg h.bel.size (fun j hj => by cases hj; exact h.hP), hr, h.box.grown hg (fun e => h.ne (by cases e; rfl)), h.hP, h.hZ, h.ne⟩
theorem RbS.put {W : World} {P Z : Nat} {t : ByteArray} {a : Int} {bd : Bool} {cs : Array Value} {x : World} (h : RbS W P Z t a bd cs x) (i : Nat) (v : Value) : RbS W P Z t a bd (cs.setIfInBounds i v) (x.setCell ⟨Z, i, none⟩ v) :=
  ⟨h.bel.setCell h.hZ _, h.rd.other _ _ h.ne _, h.box.set i v, h.hP, h.hZ, h.ne⟩
theorem trC_bad {t : ByteArray} (h : ¬ 8000 < t.size) (hb : trBad t = true) : trC t = 3 ∧ trO t = tmZ := by
  have hc : trC t = 3 := by unfold trC; rw [if_neg h, if_pos hb]
  exact ⟨hc, by unfold trO; rw [if_neg (by omega)]⟩
theorem trC_good {t : ByteArray} (h : ¬ 8000 < t.size) (hb : trBad t = false) : trC t = 0 ∧ trO t = trT t := by
  have hc : trC t = 0 := by unfold trC; rw [if_neg h, if_neg (by rw [hb]; exact Bool.false_ne_true)]
  exact ⟨hc, by unfold trO; rw [if_pos hc]⟩
set_option maxHeartbeats 4000000 in
theorem specTombRead_any (t : ByteArray) (w : World) (ht : t.size ≤ maxLen) :
    Calls Tryz.prog 55 #[.string t] w fun e w' => e = .returned (tmO (trO t) (trC t)) ∧ Below w.heap.size w w' := by
  obtain ⟨W1, hW1⟩ : ∃ W1, W1 = w.alloc (.cells #[.int .i64 0, .int .i64 0, .int .i64 0, .int .i64 0, .int .i64 0] 97) := ⟨_, rfl⟩
  have HW1 : Hid (W1 = w.alloc (.cells #[.int .i64 0, .int .i64 0, .int .i64 0, .int .i64 0, .int .i64 0] 97)) := hW1
  have HS1 : Hid (W1.heap.size = w.heap.size + 1) := by rw [hW1]; show _ = _; simp
  have K1 : Hid (Bxs W1 w.heap.size 97 #[.int .i64 0, .int .i64 0, .int .i64 0, .int .i64 0, .int .i64 0]) := by rw [hW1]; exact Bxs.new _ _ _
  have B1 : Hid (Below w.heap.size w W1) := by rw [hW1]; exact (Below.refl _ _).alloc (Nat.le_refl _) _
  have HEr : Hid (∀ (y : World) (c : Int) (T : Tmb) (x0 x1 x2 x3 x4 : Value), Below W1.heap.size W1 y → trC t = c → trO t = T → Ending.returned (.agg #[.int .i64 T.r, .int .i64 T.f, .int .i64 T.y, .int .i64 T.a, .int .i64 c]) = .returned (tmO (trO t) (trC t)) ∧ Below w.heap.size w (((((y.setCell ⟨w.heap.size, 0, none⟩ x0).setCell ⟨w.heap.size, 1, none⟩ x1).setCell ⟨w.heap.size, 2, none⟩ x2).setCell ⟨w.heap.size, 3, none⟩ x3).setCell ⟨w.heap.size, 4, none⟩ x4)) := by
    intro y c T x0 x1 x2 x3 x4 hb hc hT
    rw [hc, hT]
    exact ⟨rfl, below_set5 (chainB B1.out hb) (Nat.le_refl _) _ _ _ _ _⟩
  clear hW1
  unfold maxLen at ht
  by_cases h8 : 8000 < t.size
  · have hC : trC t = 2 := if_pos h8
    have hO : trO t = tmZ := if_neg (by rw [hC]; decide)
    have d8 : decide (8000 < (t.size : Int)) = true := decide_eq_true (by omega)
    have HE := fun x0 x1 x2 x3 x4 => HEr.out W1 2 tmZ x0 x1 x2 x3 x4 (Below.refl _ _) hC hO
    rw [HW1.out] at HE
    have HE : Hid _ := HE
    clear HEr h8 hC hO
    go_enter Tryz.func55, Tryz.ntmps55
    go_upto_region 2 with fail
    rw [← HW1.out] at HE ⊢
    obtain ⟨r0, r1, r2, r3, r4⟩ := K1.out.five
    have f0 := K1.out.fr 0
    have f1 := K1.out.fr 1
    have f2 := K1.out.fr 2
    have f3 := K1.out.fr 3
    have f4 := K1.out.fr 4
    go_wp2_with fail
    refine bodyPost_ret (v := .agg #[.int .i64 0, .int .i64 0, .int .i64 0, .int .i64 0, .int .i64 2]) (by simp [results, Tryz.results55, go_sem, r0, r1, r2, r3, r4]) rfl ?_
    exact HE.out _ _ _ _ _
  have d8 : decide (8000 < (t.size : Int)) = false := decide_eq_false (by omega)
  have ht8 : t.size ≤ 8000 := by omega
  obtain ⟨Q, hQw⟩ : ∃ Q, Q = w.heap.size + 1 := ⟨_, rfl⟩
  have hQ : Q = W1.heap.size := by rw [hQw, HS1.out]
  have HNx : Hid (∀ (a : Int) (bd : Bool) (x : World), a ≤ 9223372036854775807 → Bxs x Q 138 #[.string t, .int .i64 a, .bool bd] → Calls Tryz.prog 86 #[.pointer (some ⟨Q, 0, none⟩)] x fun e w' => e = .returned (.int .i64 (rnN t a bd)) ∧ Bxs w' Q 138 #[.string t, .int .i64 (rnA t a bd), .bool (rnB t a bd)] ∧ x.grownBy w' (some Q)) := fun a bd x ha hb => rdNum_any Q t a bd x hb ht8 ha
  have HGood : Hid (trBad t = false → trC t = 0 ∧ trO t = trT t) := trC_good h8
  have HBad : Hid (trBad t = true → trC t = 3 ∧ trO t = tmZ) := trC_bad h8
  have l1 : trA1 t ≤ 9223372036854775807 := rnA_top t 1 false (by omega) ht8
  have l2 : trA2 t ≤ 9223372036854775807 := rnA_top t _ _ l1 ht8
  have l3 : trA3 t ≤ 9223372036854775807 := rnA_top t _ _ l2 ht8
  obtain ⟨n1, hn1⟩ : ∃ n, n = rnN t 1 false := ⟨_, rfl⟩
  obtain ⟨n2, hn2⟩ : ∃ n, n = rnN t (trA1 t) (trB1 t) := ⟨_, rfl⟩
  obtain ⟨n3, hn3⟩ : ∃ n, n = rnN t (trA2 t) (trB2 t) := ⟨_, rfl⟩
  obtain ⟨n4, hn4⟩ : ∃ n, n = rnN t (trA3 t) (trB3 t) := ⟨_, rfl⟩
  obtain ⟨a4, ha4⟩ : ∃ n, n = rnA t (trA3 t) (trB3 t) := ⟨_, rfl⟩
  obtain ⟨b4, hb4⟩ : ∃ n, n = trBd t := ⟨_, rfl⟩
  have HT : Hid (trT t = ⟨n1, n2, n3, n4⟩) := by show _ = _; rw [hn1, hn2, hn3, hn4]; rfl
  have HBd : Hid (trBad t = (b4 || decide (t.size = 0) || !decide (tmT ⟨n1, n2, n3, n4⟩ = t))) := by show _ = _; unfold trBad; rw [HT.out, hb4]
  have C1 : Hid (∀ x, Bxs x Q 138 #[.string t, .int .i64 1, .bool false] → Calls Tryz.prog 86 #[.pointer (some ⟨Q, 0, none⟩)] x fun e w' => e = .returned (.int .i64 n1) ∧ Bxs w' Q 138 #[.string t, .int .i64 (trA1 t), .bool (trB1 t)] ∧ x.grownBy w' (some Q)) := by rw [hn1]; exact fun x hx => HNx.out 1 false x (by omega) hx
  have C2 : Hid (∀ x, Bxs x Q 138 #[.string t, .int .i64 (trA1 t), .bool (trB1 t)] → Calls Tryz.prog 86 #[.pointer (some ⟨Q, 0, none⟩)] x fun e w' => e = .returned (.int .i64 n2) ∧ Bxs w' Q 138 #[.string t, .int .i64 (trA2 t), .bool (trB2 t)] ∧ x.grownBy w' (some Q)) := by rw [hn2]; exact fun x hx => HNx.out _ _ x l1 hx
  have C3 : Hid (∀ x, Bxs x Q 138 #[.string t, .int .i64 (trA2 t), .bool (trB2 t)] → Calls Tryz.prog 86 #[.pointer (some ⟨Q, 0, none⟩)] x fun e w' => e = .returned (.int .i64 n3) ∧ Bxs w' Q 138 #[.string t, .int .i64 (trA3 t), .bool (trB3 t)] ∧ x.grownBy w' (some Q)) := by rw [hn3]; exact fun x hx => HNx.out _ _ x l2 hx
  have C4 : Hid (∀ x, Bxs x Q 138 #[.string t, .int .i64 (trA3 t), .bool (trB3 t)] → Calls Tryz.prog 86 #[.pointer (some ⟨Q, 0, none⟩)] x fun e w' => e = .returned (.int .i64 n4) ∧ Bxs w' Q 138 #[.string t, .int .i64 a4, .bool b4] ∧ x.grownBy w' (some Q)) := by rw [hn4, ha4, hb4]; exact fun x hx => HNx.out _ _ x l3 hx
  have CT : Hid (∀ x, Calls Tryz.prog 87 #[.agg #[.int .i64 n1, .int .i64 n2, .int .i64 n3, .int .i64 n4]] x fun e w' => e = .returned (.string (tmT ⟨n1, n2, n3, n4⟩)) ∧ Below x.heap.size x w') := fun x => specTombText_any ⟨n1, n2, n3, n4⟩ x
  obtain ⟨W2, hW2⟩ : ∃ W2, W2 = W1.alloc (.cells #[.string t, .int .i64 1, .bool false] 138) := ⟨_, rfl⟩
  have KP : Hid (Bxs W2 Q 138 #[.string t, .int .i64 1, .bool false]) := by rw [hW2, hQ]; exact Bxs.new _ _ _
  have B2 : Hid (Below W1.heap.size W1 W2) := by rw [hW2]; exact (Below.refl _ _).alloc (Nat.le_refl _) _
  have HW2 : Hid (W2 = W1.alloc (.cells #[.string t, .int .i64 1, .bool false] 138)) := hW2
  have HQd : Hid (Q = w.heap.size + 1) := hQw
  have HQs : Hid (W1.heap.size ≤ Q) := by show _ ≤ _; omega
  have e0 := ba_nil t
  have eT := ba_beq (tmT ⟨n1, n2, n3, n4⟩) t
  generalize tmT ⟨n1, n2, n3, n4⟩ = TX at *
  have E0 : Hid (t.toList.isEmpty = decide (t.size = 0)) := e0
  have ET : Hid ((TX.toList == t.toList) = decide (TX = t)) := eT
  clear hn1 hn2 hn3 hn4 ha4 hb4 HNx l1 l2 l3 h8 hW2 hQ hQw e0 eT
  go_enter Tryz.func55, Tryz.ntmps55
  go_upto_region 4 with fail
  rw [← HW1.out]
  rw [← HW2.out, ← HQd.out]
  clear HW2 HW1 HQd d8
  go_wp2_with fail
  refine (C1.out W2 KP.out).mono ?_
  rintro e y1 ⟨rfl, kb1, hg1⟩
  go_upto_region 5 with fail
  obtain ⟨y2, hy2⟩ : ∃ y2, y2 = y1.alloc (.cells #[.int .i64 n1, .int .i64 0, .int .i64 0, .int .i64 0] 95) := ⟨_, rfl⟩
  rw [← hy2]
  obtain ⟨Z, hZ⟩ : ∃ Z, Z = y1.heap.size := ⟨_, rfl⟩
  have S2 : RbS W1 Q Z t (trA1 t) (trB1 t) #[.int .i64 n1, .int .i64 0, .int .i64 0, .int .i64 0] y2 := by
    have hz1 := kb1.lt
    have b1 : Below W1.heap.size W1 y1 := B2.out.grown hg1 B2.out.size (fun j hj => by cases hj; exact HQs.out)
    rw [hy2, hZ]
    exact ⟨alB b1 _, kb1.alloc _, Bxs.new _ _ _, HQs.out, b1.size, by omega⟩
  rw [← hZ]
  have S2' : Hid (RbS W1 Q Z t (trA1 t) (trB1 t) #[.int .i64 n1, .int .i64 0, .int .i64 0, .int .i64 0] y2) := S2
  clear hy2 hZ S2 kb1 hg1 KP B2
  go_wp2_with fail
  refine (C2.out y2 S2'.out.rd).mono ?_
  rintro e z1 ⟨rfl, kb, hg⟩
  have S := S2'.out.call kb hg
  have p1 : z1.cell? ⟨Z, 1, none⟩ = some (.int .i64 0) := S.box.cell 1
  have f1 := S.box.fr 1
  have T1 : Hid (RbS W1 Q Z t (trA2 t) (trB2 t) #[.int .i64 n1, .int .i64 n2, .int .i64 0, .int .i64 0] (z1.setCell ⟨Z, 1, none⟩ (.int .i64 n2))) := S.put 1 _
  clear S kb hg S2'
  go_upto_region 6 with fail
  obtain ⟨u1, hu1⟩ : ∃ u1, u1 = z1.setCell ⟨Z, 1, none⟩ (.int .i64 n2) := ⟨_, rfl⟩
  rw [← hu1] at T1 ⊢
  have S3' : Hid (RbS W1 Q Z t (trA2 t) (trB2 t) #[.int .i64 n1, .int .i64 n2, .int .i64 0, .int .i64 0] u1) := T1.out
  clear hu1 T1 p1 f1
  go_wp2_with fail
  refine (C3.out u1 S3'.out.rd).mono ?_
  rintro e z2 ⟨rfl, kb, hg⟩
  have S := S3'.out.call kb hg
  have p2 : z2.cell? ⟨Z, 2, none⟩ = some (.int .i64 0) := S.box.cell 2
  have f2 := S.box.fr 2
  have T2 : Hid (RbS W1 Q Z t (trA3 t) (trB3 t) #[.int .i64 n1, .int .i64 n2, .int .i64 n3, .int .i64 0] (z2.setCell ⟨Z, 2, none⟩ (.int .i64 n3))) := S.put 2 _
  clear S kb hg S3'
  go_upto_region 7 with fail
  obtain ⟨u2, hu2⟩ : ∃ u2, u2 = z2.setCell ⟨Z, 2, none⟩ (.int .i64 n3) := ⟨_, rfl⟩
  rw [← hu2] at T2 ⊢
  have S4' : Hid (RbS W1 Q Z t (trA3 t) (trB3 t) #[.int .i64 n1, .int .i64 n2, .int .i64 n3, .int .i64 0] u2) := T2.out
  clear hu2 T2 p2 f2
  go_wp2_with fail
  refine (C4.out u2 S4'.out.rd).mono ?_
  rintro e z3 ⟨rfl, kb, hg⟩
  have S := S4'.out.call kb hg
  have p3 : z3.cell? ⟨Z, 3, none⟩ = some (.int .i64 0) := S.box.cell 3
  have f3 := S.box.fr 3
  have T3 : Hid (RbS W1 Q Z t a4 b4 #[.int .i64 n1, .int .i64 n2, .int .i64 n3, .int .i64 n4] (z3.setCell ⟨Z, 3, none⟩ (.int .i64 n4))) := S.put 3 _
  clear S kb hg S4'
  go_upto_region 8 with fail
  obtain ⟨u3, hu3⟩ : ∃ u3, u3 = z3.setCell ⟨Z, 3, none⟩ (.int .i64 n4) := ⟨_, rfl⟩
  rw [← hu3] at T3 ⊢
  have S5' : Hid (RbS W1 Q Z t a4 b4 #[.int .i64 n1, .int .i64 n2, .int .i64 n3, .int .i64 n4] u3) := T3.out
  clear hu3 T3 p3 f3
  have q2 : u3.cell? ⟨Q, 2, none⟩ = some (.bool b4) := S5'.out.rd.cell 2
  obtain ⟨c0, c1, c2, c3⟩ := S5'.out.box.four
  have K9 : Hid (Bxs u3 w.heap.size 97 #[.int .i64 0, .int .i64 0, .int .i64 0, .int .i64 0, .int .i64 0]) := K1.out.below S5'.out.bel
  have HE3 : Hid (trBad t = true → ∀ (y : World), Below u3.heap.size u3 y → ∀ x0 x1 x2 x3 x4, Ending.returned (.agg #[.int .i64 0, .int .i64 0, .int .i64 0, .int .i64 0, .int .i64 3]) = .returned (tmO (trO t) (trC t)) ∧ Below w.heap.size w (((((y.setCell ⟨w.heap.size, 0, none⟩ x0).setCell ⟨w.heap.size, 1, none⟩ x1).setCell ⟨w.heap.size, 2, none⟩ x2).setCell ⟨w.heap.size, 3, none⟩ x3).setCell ⟨w.heap.size, 4, none⟩ x4)) := fun h y hy x0 x1 x2 x3 x4 => HEr.out y 3 tmZ x0 x1 x2 x3 x4 (chainB S5'.out.bel hy) (HBad.out h).1 (HBad.out h).2
  have HE0 : Hid (trBad t = false → ∀ (y : World), Below u3.heap.size u3 y → ∀ x0 x1 x2 x3 x4, Ending.returned (.agg #[.int .i64 n1, .int .i64 n2, .int .i64 n3, .int .i64 n4, .int .i64 0]) = .returned (tmO (trO t) (trC t)) ∧ Below w.heap.size w (((((y.setCell ⟨w.heap.size, 0, none⟩ x0).setCell ⟨w.heap.size, 1, none⟩ x1).setCell ⟨w.heap.size, 2, none⟩ x2).setCell ⟨w.heap.size, 3, none⟩ x3).setCell ⟨w.heap.size, 4, none⟩ x4)) := fun h y hy x0 x1 x2 x3 x4 => HEr.out y 0 ⟨n1, n2, n3, n4⟩ x0 x1 x2 x3 x4 (chainB S5'.out.bel hy) (HGood.out h).1 ((HGood.out h).2.trans HT.out)
  have BZ : Hid (Bxs u3 Z 95 #[.int .i64 n1, .int .i64 n2, .int .i64 n3, .int .i64 n4]) := S5'.out.box
  rw [HBd.out] at HE3 HE0
  clear S5' HEr HBad HGood HT HBd C1 C2 C3 C4 K1 B1 HS1
  cases b4 with
  | true =>
    have HE : Hid _ := HE3.out rfl u3 (Below.refl _ _)
    clear HE3 HE0
    obtain ⟨r0, r1, r2, r3, r4⟩ := (K9.out).five
    have f0 := (K9.out).fr 0
    have f1 := (K9.out).fr 1
    have f2 := (K9.out).fr 2
    have f3 := (K9.out).fr 3
    have f4 := (K9.out).fr 4
    go_wp2_with fail
    refine bodyPost_ret (v := .agg #[.int .i64 0, .int .i64 0, .int .i64 0, .int .i64 0, .int .i64 3]) (by simp [results, Tryz.results55, go_sem, r0, r1, r2, r3, r4]) rfl ?_
    exact HE.out _ _ _ _ _
  | false =>
  cases h0 : t.toList.isEmpty with
  | true =>
    have d0 : decide (t.size = 0) = true := by rw [← E0.out]; exact h0
    have HE : Hid _ := HE3.out (by rw [d0]; rfl) u3 (Below.refl _ _)
    clear HE3 HE0 d0 E0
    obtain ⟨r0, r1, r2, r3, r4⟩ := (K9.out).five
    have f0 := (K9.out).fr 0
    have f1 := (K9.out).fr 1
    have f2 := (K9.out).fr 2
    have f3 := (K9.out).fr 3
    have f4 := (K9.out).fr 4
    go_wp2_with fail
    refine bodyPost_ret (v := .agg #[.int .i64 0, .int .i64 0, .int .i64 0, .int .i64 0, .int .i64 3]) (by simp [results, Tryz.results55, go_sem, r0, r1, r2, r3, r4]) rfl ?_
    exact HE.out _ _ _ _ _
  | false =>
    have d0 : decide (t.size = 0) = false := by rw [← E0.out]; exact h0
    cases h1 : (TX.toList == t.toList) with
    | false =>
      have d1 : decide (TX = t) = false := by rw [← ET.out]; exact h1
      have HE3' : Hid (∀ (y : World), Below u3.heap.size u3 y → ∀ x0 x1 x2 x3 x4, Ending.returned (.agg #[.int .i64 0, .int .i64 0, .int .i64 0, .int .i64 0, .int .i64 3]) = .returned (tmO (trO t) (trC t)) ∧ Below w.heap.size w (((((y.setCell ⟨w.heap.size, 0, none⟩ x0).setCell ⟨w.heap.size, 1, none⟩ x1).setCell ⟨w.heap.size, 2, none⟩ x2).setCell ⟨w.heap.size, 3, none⟩ x3).setCell ⟨w.heap.size, 4, none⟩ x4)) := HE3.out (by rw [d0, d1]; rfl)
      clear HE3 HE0 d0 d1 E0 ET
      go_wp2_with fail
      refine (CT.out u3).mono ?_
      rintro e y9 ⟨rfl, b9⟩
      have HE : Hid _ := HE3'.out y9 b9
      have KK := K9.out.below b9
      clear HE3' 
      obtain ⟨r0, r1, r2, r3, r4⟩ := (KK).five
      have f0 := (KK).fr 0
      have f1 := (KK).fr 1
      have f2 := (KK).fr 2
      have f3 := (KK).fr 3
      have f4 := (KK).fr 4
      clear KK K9 b9
      go_wp2_with fail
      refine bodyPost_ret (v := .agg #[.int .i64 0, .int .i64 0, .int .i64 0, .int .i64 0, .int .i64 3]) (by simp [results, Tryz.results55, go_sem, r0, r1, r2, r3, r4]) rfl ?_
      exact HE.out _ _ _ _ _
    | true =>
      have d1 : decide (TX = t) = true := by rw [← ET.out]; exact h1
      have HE0' : Hid (∀ (y : World), Below u3.heap.size u3 y → ∀ x0 x1 x2 x3 x4, Ending.returned (.agg #[.int .i64 n1, .int .i64 n2, .int .i64 n3, .int .i64 n4, .int .i64 0]) = .returned (tmO (trO t) (trC t)) ∧ Below w.heap.size w (((((y.setCell ⟨w.heap.size, 0, none⟩ x0).setCell ⟨w.heap.size, 1, none⟩ x1).setCell ⟨w.heap.size, 2, none⟩ x2).setCell ⟨w.heap.size, 3, none⟩ x3).setCell ⟨w.heap.size, 4, none⟩ x4)) := HE0.out (by rw [d0, d1]; rfl)
      clear HE3 HE0 d0 d1 E0 ET
      go_wp2_with fail
      refine (CT.out u3).mono ?_
      rintro e y9 ⟨rfl, b9⟩
      have HE : Hid _ := HE0'.out y9 b9
      have KK := K9.out.below b9
      obtain ⟨c0, c1, c2, c3⟩ := (BZ.out.below b9).four
      clear HE0' 
      obtain ⟨r0, r1, r2, r3, r4⟩ := (KK).five
      have f0 := (KK).fr 0
      have f1 := (KK).fr 1
      have f2 := (KK).fr 2
      have f3 := (KK).fr 3
      have f4 := (KK).fr 4
      clear KK K9 b9 BZ
      go_wp2_with fail
      refine bodyPost_ret (v := .agg #[.int .i64 n1, .int .i64 n2, .int .i64 n3, .int .i64 n4, .int .i64 0]) (by simp [results, Tryz.results55, go_sem, r0, r1, r2, r3, r4]) rfl ?_
      exact HE.out _ _ _ _ _
end Go.Proofs.YthkmeneepkaedaaGreatDoor
/-
  What the program's digestOfAll answers: the digest of all texts, one behind the other.
  Conditions: the two tables of the digest lie as laid.
-/
namespace Go.Proofs.YthkmeneepkaedaaGreatDoor
open Go.RowKit Go.Lib
set_option linter.unusedVariables false

set_option maxHeartbeats 1000000 in
theorem digAll_any (g c : Nat) (ss : List ByteArray) (w : World) (hT : Tabs w) (hb : BlkS w g ss) (hn : ss.length ≤ 1024) (hc : ss.length ≤ c) (htot : (cat ss).size ≤ 1099511627776) :
    Calls Tryz.prog 189 #[.slice (some ⟨g, 0, none⟩) ss.length c] w fun e w' => e = .returned (.string (digB (cat ss))) ∧ Below w.heap.size w w' := by
  have hJ := joined_any g 0 ss.length c ss w rfl hb.lt (by omega) hc (fun i h => by rw [Nat.zero_add]; exact (hb.cell i h).1) (by rw [← cat_size]; omega)
  have HT : Hid (Tabs w) := hT
  clear hT hb
  generalize cat ss = C at *
  go_enter Tryz.func189, Tryz.ntmps189
  go_wp2_with fail
  refine hJ.mono ?_
  rintro e w1 ⟨rfl, b1⟩
  go_wp2_with fail
  refine (digI_any C w1 htot (HT.out.below b1 HT.out.1)).mono ?_
  rintro e w2 ⟨rfl, b2⟩
  have b2 := chainB b1 b2
  go_wp2_with fail
  go_ret
  exact ⟨rfl, b2⟩
end Go.Proofs.YthkmeneepkaedaaGreatDoor
/-
  What the program's goneField, presentField, timeRight, CommitOf and FieldRight answer; two fields compared as wholes.
  Conditions: the two tables of the digest lie as laid.
-/
namespace Go.Proofs.YthkmeneepkaedaaGreatDoor
open Go.RowKit Go.Lib
set_option linter.unusedVariables false
set_option maxRecDepth 20000

/-- A field as a value. -/
def fv5 (n c s v : ByteArray) (g : Bool) : Value := .agg #[.string n, .string c, .string s, .string v, .bool g]
def eqF (n c s v : ByteArray) (g : Bool) (n' c' s' v' : ByteArray) (g' : Bool) : Bool := (n.toList == n'.toList) && ((c.toList == c'.toList) && ((s.toList == s'.toList) && ((v.toList == v'.toList) && (g == g'))))
theorem eql_fld (n c s v : ByteArray) (g : Bool) (n' c' s' v' : ByteArray) (g' : Bool) (w : World) : (binOp .eql 66 (.agg #[.string n, .string c, .string s, .string v, .bool g]) (.agg #[.string n', .string c', .string s', .string v', .bool g'])).run Tryz.prog w = .ok (.bool (eqF n c s v g n' c' s' v' g')) w := by
  unfold eqF
  rw [run_eql_struct, run_equalIn_agg w 9999 66 _ _ (by kernel_rfl) (by kernel_rfl)]
  have hF : Tryz.prog.fieldsOf 66 = Tryz.prog.fieldsOf 66 := rfl
  conv at hF => rhs; simp only [Program.fieldsOf, Tryz.underlying66]
  rw [hF]
  cases h1 : n.toList == n'.toList <;> cases h2 : c.toList == c'.toList <;> cases h3 : s.toList == s'.toList <;> cases h4 : v.toList == v'.toList <;> cases h5 : g == g' <;>
    simp [go_sem, Op.eqFields, h1, h2, h3, h4, h5]
theorem eqF_gone (n c s v : ByteArray) : eqF n c s v true n c ByteArray.empty ByteArray.empty true = (emB s && emB v) := by
  unfold eqF emB; simp
theorem eqF_there (n c s v C : ByteArray) : eqF n c s v false n C s v false = (c.toList == C.toList) := by
  unfold eqF; simp
theorem Tabs.to {w w' : World} (h : Tabs w) (hb : Below w.heap.size w w') : Tabs w' := h.below hb h.1
theorem goneField_any (n c : ByteArray) (w : World) : Calls Tryz.prog 164 #[.string n, .string c] w fun e w' => e = .returned (.agg #[.string n, .string c, .string ByteArray.empty, .string ByteArray.empty, .bool true]) ∧ Below w.heap.size w w' := by
  have B1 : Below w.heap.size w (w.alloc (.cells #[.string n, .string c, .string ByteArray.empty, .string ByteArray.empty, .bool true] 66)) := (Below.refl _ _).alloc (Nat.le_refl _) _
  go_enter Tryz.func164, Tryz.ntmps164
  go_wp2_with fail
  refine bodyPost_ret (v := .agg #[.string n, .string c, .string ByteArray.empty, .string ByteArray.empty, .bool true]) (by simp [results, Tryz.results164, go_sem]; rfl) rfl ?_
  exact ⟨rfl, B1⟩
theorem digFour_any (A B C : ByteArray) (w : World) (hT : Tabs w) (h1 : A.size ≤ 2000) (h2 : B.size ≤ 2000) (h3 : C.size ≤ 2000) :
    Calls Tryz.prog 189 #[.slice (some ⟨w.heap.size, 0, none⟩) 4 4] (w.alloc (.cells #[.string ⟨#[2]⟩, .string A, .string B, .string C] 9)) fun e w' => e = .returned (.string (digB (two1 ++ A ++ B ++ C))) ∧ Below w.heap.size w w' := by
  have hc : cat [two1, A, B, C] = two1 ++ A ++ B ++ C := by apply ByteArray.ext; simp [cat]
  have hb : BlkS (w.alloc (.cells #[.string ⟨#[2]⟩, .string A, .string B, .string C] 9)) w.heap.size [two1, A, B, C] := alloc_str w [two1, A, B, C]
  have b1 : Below w.heap.size w (w.alloc (.cells #[.string ⟨#[2]⟩, .string A, .string B, .string C] 9)) := (Below.refl _ _).alloc (Nat.le_refl _) _
  have h := digAll_any w.heap.size 4 [two1, A, B, C] _ (hT.to b1) hb (by simp) (by simp) (by rw [hc]; simp only [ByteArray.size_append]; show 1 + _ + _ + _ ≤ _; omega)
  rw [hc] at h
  refine Calls.mono h ?_
  rintro e w' ⟨he, hb'⟩
  exact ⟨he, chainB b1 hb'⟩
set_option maxHeartbeats 1000000 in
theorem implCommitOf_any (n s v : ByteArray) (w : World) (hT : Tabs w) (hn : n.size ≤ maxLen) (hs : s.size ≤ maxLen) (hv : v.size ≤ maxLen) : Calls Tryz.prog 179 #[.string n, .string s, .string v] w fun e w' => e = .returned (.string (cmB n s v)) ∧ Below w.heap.size w w' := by
  have hN := implNameRight_any n w hn
  have HTb : Hid (Tabs w) := hT
  clear hT
  unfold maxLen at hn hs hv
  cases hk : nrB n with
  | false =>
    have HV : Hid (cmB n s v = ByteArray.empty) := if_neg (by unfold cmOk; rw [hk]; exact Bool.false_ne_true)
    rw [hk] at hN
    rw [HV.out]
    go_enter Tryz.func179, Tryz.ntmps179
    go_wp2_with fail
    refine hN.mono ?_
    rintro e w1 ⟨rfl, rfl⟩
    go_wp2_with fail
    go_ret
    exact ⟨rfl, Below.refl _ _⟩
  | true =>
  rw [hk] at hN
  by_cases h1 : s.size < 1
  · have HV : Hid (cmB n s v = ByteArray.empty) := if_neg (by unfold cmOk; rw [decide_eq_false (by omega)]; simp)
    have d1 : decide ((s.size : Int) < 1) = true := decide_eq_true (by omega)
    rw [HV.out]
    go_enter Tryz.func179, Tryz.ntmps179
    go_wp2_with fail
    refine hN.mono ?_
    rintro e w1 ⟨rfl, rfl⟩
    go_wp2_with fail
    go_ret
    exact ⟨rfl, Below.refl _ _⟩
  have d1 : decide ((s.size : Int) < 1) = false := decide_eq_false (by omega)
  by_cases h2 : 8 < s.size
  · have HV : Hid (cmB n s v = ByteArray.empty) := if_neg (by unfold cmOk; rw [decide_eq_false (p := 1 ≤ s.size ∧ s.size ≤ 8) (by omega)]; simp)
    have d2 : decide (8 < (s.size : Int)) = true := decide_eq_true (by omega)
    rw [HV.out]
    go_enter Tryz.func179, Tryz.ntmps179
    go_wp2_with fail
    refine hN.mono ?_
    rintro e w1 ⟨rfl, rfl⟩
    go_wp2_with fail
    go_ret
    exact ⟨rfl, Below.refl _ _⟩
  have d2 : decide (8 < (s.size : Int)) = false := decide_eq_false (by omega)
  by_cases h3 : 16 < v.size
  · have HV : Hid (cmB n s v = ByteArray.empty) := if_neg (by unfold cmOk; rw [decide_eq_false (p := v.size ≤ 16) (by omega)]; simp)
    have d3 : decide (16 < (v.size : Int)) = true := decide_eq_true (by omega)
    rw [HV.out]
    go_enter Tryz.func179, Tryz.ntmps179
    go_wp2_with fail
    refine hN.mono ?_
    rintro e w1 ⟨rfl, rfl⟩
    go_wp2_with fail
    go_ret
    exact ⟨rfl, Below.refl _ _⟩
  have d3 : decide (16 < (v.size : Int)) = false := decide_eq_false (by omega)
  have HV : Hid (cmB n s v = digB (cmT n s v)) := if_pos (by unfold cmOk; rw [hk, decide_eq_true (p := 1 ≤ s.size ∧ s.size ≤ 8) (by omega), decide_eq_true (p := v.size ≤ 16) (by omega)]; rfl)
  have hn20 := nrB_le hk
  have t1 := putTextB_le n (by omega)
  have t2 := putTextB_le s (by omega)
  have t3 := putTextB_le v (by omega)
  have HN : Hid (∀ x, Calls Tryz.prog 188 #[.string n] x fun e w' => e = .returned (.string (putTextB n)) ∧ Below x.heap.size x w') := fun x => implPutText_any n x (by unfold maxLen; omega)
  have HS : Hid (∀ x, Calls Tryz.prog 188 #[.string s] x fun e w' => e = .returned (.string (putTextB s)) ∧ Below x.heap.size x w') := fun x => implPutText_any s x (by unfold maxLen; omega)
  have HVv : Hid (∀ x, Calls Tryz.prog 188 #[.string v] x fun e w' => e = .returned (.string (putTextB v)) ∧ Below x.heap.size x w') := fun x => implPutText_any v x (by unfold maxLen; omega)
  have HT : Hid (cmT n s v = two1 ++ putTextB n ++ putTextB s ++ putTextB v) := rfl
  have HD : Hid (∀ x, Tabs x → Calls Tryz.prog 189 #[.slice (some ⟨x.heap.size, 0, none⟩) 4 4] (x.alloc (.cells #[.string ⟨#[2]⟩, .string (putTextB n), .string (putTextB s), .string (putTextB v)] 9)) fun e w' => e = .returned (.string (digB (cmT n s v))) ∧ Below x.heap.size x w') := fun x hx => by
    rw [HT.out]
    exact digFour_any _ _ _ x hx (by omega) (by omega) (by omega)
  rw [HV.out]
  clear HT HV
  generalize digB (cmT n s v) = O at *
  generalize putTextB n = A at *
  generalize putTextB s = B at *
  generalize putTextB v = C at *
  clear hk h1 h2 h3 hn20 t1 t2 t3
  go_enter Tryz.func179, Tryz.ntmps179
  go_wp2_with fail
  refine hN.mono ?_
  rintro e w1 ⟨rfl, rfl⟩
  go_wp2_with fail
  refine (HN.out w1).mono ?_
  rintro e w2 ⟨rfl, b2⟩
  go_wp2_with fail
  refine (HS.out w2).mono ?_
  rintro e w3 ⟨rfl, b3⟩
  have b3 := chainB b2 b3
  go_wp2_with fail
  refine (HVv.out w3).mono ?_
  rintro e w4 ⟨rfl, b4⟩
  have b4 := chainB b3 b4
  go_wp2_with fail
  refine (HD.out w4 (HTb.out.to b4)).mono ?_
  rintro e w5 ⟨rfl, b5⟩
  have b5 := chainB b4 b5
  go_wp2_with fail
  go_ret
  exact ⟨rfl, b5⟩
set_option maxHeartbeats 1000000 in
theorem presentField_any (n s v : ByteArray) (w : World) (hT : Tabs w) (hn : n.size ≤ maxLen) (hs : s.size ≤ maxLen) (hv : v.size ≤ maxLen) : Calls Tryz.prog 167 #[.string n, .string s, .string v] w fun e w' => e = .returned (.agg #[.string n, .string (cmB n s v), .string s, .string v, .bool false]) ∧ Below w.heap.size w w' := by
  obtain ⟨W1, hW1⟩ : ∃ W1, W1 = w.alloc (.cells #[.string ⟨#[]⟩, .string ⟨#[]⟩, .string ⟨#[]⟩, .string ⟨#[]⟩, .bool false] 66) := ⟨_, rfl⟩
  have HW1 : Hid (W1 = w.alloc (.cells #[.string ⟨#[]⟩, .string ⟨#[]⟩, .string ⟨#[]⟩, .string ⟨#[]⟩, .bool false] 66)) := hW1
  have B1 : Hid (Below w.heap.size w W1) := by rw [hW1]; exact (Below.refl _ _).alloc (Nat.le_refl _) _
  have K1 : Hid (Bxs W1 w.heap.size 66 #[.string ⟨#[]⟩, .string ⟨#[]⟩, .string ⟨#[]⟩, .string ⟨#[]⟩, .bool false]) := by rw [hW1]; exact Bxs.new _ _ _
  have hC := implCommitOf_any n s v W1 (hT.to B1.out) hn hs hv
  have HP : Hid (∀ y x0 x1 x2 x3 x4, Below W1.heap.size W1 y → Below w.heap.size w (((((y.setCell ⟨w.heap.size, 0, none⟩ x0).setCell ⟨w.heap.size, 1, none⟩ x1).setCell ⟨w.heap.size, 2, none⟩ x2).setCell ⟨w.heap.size, 3, none⟩ x3).setCell ⟨w.heap.size, 4, none⟩ x4)) := fun y x0 x1 x2 x3 x4 hb => below_set5 (chainB B1.out hb) (Nat.le_refl _) x0 x1 x2 x3 x4
  clear hW1 hT
  generalize cmB n s v = O at *
  go_enter Tryz.func167, Tryz.ntmps167
  go_wp2_with fail
  rw [← HW1.out]
  refine hC.mono ?_
  rintro e y ⟨rfl, b1⟩
  have K2 := K1.out.below b1
  obtain ⟨k0, k1, k2, k3, k4⟩ := K2.five
  have f0 := K2.fr 0
  have f1 := K2.fr 1
  have f2 := K2.fr 2
  have f3 := K2.fr 3
  have f4 := K2.fr 4
  have HE := fun x0 x1 x2 x3 x4 => HP.out y x0 x1 x2 x3 x4 b1
  clear K2 HP b1
  go_wp2_with fail
  refine bodyPost_ret (v := .agg #[.string n, .string O, .string s, .string v, .bool false]) (by simp [results, Tryz.results167, go_sem, k0, k1, k2, k3, k4]) rfl ?_
  exact ⟨rfl, HE _ _ _ _ _⟩
/-- areDigests of one text, laid into a new row. -/
theorem areOne_any (c : ByteArray) (w : World) : Calls Tryz.prog 90 #[.slice (some ⟨w.heap.size, 0, none⟩) 1 1] (w.alloc (.cells #[.string c] 9)) fun e w' => e = .returned (.bool (decide (c.size = 32))) ∧ Below w.heap.size w w' := by
  have hb : BlkS (w.alloc (.cells #[.string c] 9)) w.heap.size [c] := alloc_str w [c]
  have b1 : Below w.heap.size w (w.alloc (.cells #[.string c] 9)) := (Below.refl _ _).alloc (Nat.le_refl _) _
  have h := areD_any (some ⟨w.heap.size, 0, none⟩) 1 [c] _ hb.txt (by simp) (by simp)
  have e1 : wideB [c] = decide (c.size = 32) := by
    unfold wideB
    by_cases h : c.size = 32
    · rw [decide_eq_true h]; simp [h]
    · rw [decide_eq_false h]; simp [h]
  rw [e1] at h
  refine Calls.mono h ?_
  rintro e w' ⟨he, rfl⟩
  exact ⟨he, b1⟩
set_option maxHeartbeats 2000000 in
theorem implFieldRight_any (f : Fld) (w : World) (hT : Tabs w) (h1 : f.n.size ≤ maxLen) (h2 : f.c.size ≤ maxLen) (h3 : f.s.size ≤ maxLen) (h4 : f.v.size ≤ maxLen) : Calls Tryz.prog 153 #[.agg #[.string f.n, .string f.c, .string f.s, .string f.v, .bool f.g]] w fun e w' => e = .returned (.bool (fdB f)) ∧ Below w.heap.size w w' := by
  obtain ⟨n, c, s, v, g⟩ := f
  show Calls Tryz.prog 153 #[.agg #[.string n, .string c, .string s, .string v, .bool g]] w _
  have h1 : n.size ≤ maxLen := h1
  have h2 : c.size ≤ maxLen := h2
  have h3 : s.size ≤ maxLen := h3
  have h4 : v.size ≤ maxLen := h4
  obtain ⟨W1, hW1⟩ : ∃ W1, W1 = w.alloc (.cells #[.string n, .string c, .string s, .string v, .bool g] 66) := ⟨_, rfl⟩
  have HW1 : Hid (W1 = w.alloc (.cells #[.string n, .string c, .string s, .string v, .bool g] 66)) := hW1
  have B1 : Hid (Below w.heap.size w W1) := by rw [hW1]; exact (Below.refl _ _).alloc (Nat.le_refl _) _
  have K1 : Hid (Bxs W1 w.heap.size 66 #[.string n, .string c, .string s, .string v, .bool g]) := by rw [hW1]; exact Bxs.new _ _ _
  have HTb : Hid (Tabs W1) := hT.to B1.out
  have hN := implNameRight_any n W1 h1
  have hA := areOne_any c W1
  have HG : Hid (∀ x, Calls Tryz.prog 164 #[.string n, .string c] x fun e w' => e = .returned (.agg #[.string n, .string c, .string ByteArray.empty, .string ByteArray.empty, .bool true]) ∧ Below x.heap.size x w') := fun x => goneField_any n c x
  have HC : Hid (∀ x, Tabs x → Calls Tryz.prog 167 #[.string n, .string s, .string v] x fun e w' => e = .returned (.agg #[.string n, .string (cmB n s v), .string s, .string v, .bool false]) ∧ Below x.heap.size x w') := fun x hx => presentField_any n s v x hx h1 h3 h4
  have HF : Hid (fdB ⟨n, c, s, v, g⟩ = (nrB n && (decide (c.size = 32) && (if g = true then emB s && emB v else c.toList == (cmB n s v).toList)))) := rfl
  have HX : Hid (∀ x, Below W1.heap.size W1 x → x.cell? ⟨w.heap.size, 0, none⟩ = some (.string n) ∧ x.cell? ⟨w.heap.size, 1, none⟩ = some (.string c) ∧ x.cell? ⟨w.heap.size, 2, none⟩ = some (.string s) ∧ x.cell? ⟨w.heap.size, 3, none⟩ = some (.string v) ∧ x.cell? ⟨w.heap.size, 4, none⟩ = some (.bool g)) := fun x hb => ⟨(K1.out.below hb).cell 0, (K1.out.below hb).cell 1, (K1.out.below hb).cell 2, (K1.out.below hb).cell 3, (K1.out.below hb).cell 4⟩
  obtain ⟨x0, x1, x2, x3, x4⟩ := HX.out W1 (Below.refl _ _)
  have y0 := x0
  rw [hW1] at y0
  unfold maxLen at h1 h2 h3 h4
  clear hW1 hT
  rw [HF.out]
  cases hk : nrB n with
  | false =>
    rw [hk] at hN
    rw [Bool.false_and]
    go_enter Tryz.func153, Tryz.ntmps153
    go_wp2_with fail
    rw [← HW1.out]
    refine hN.mono ?_
    rintro e w1 ⟨rfl, rfl⟩
    go_wp2_with fail
    go_ret
    exact ⟨rfl, B1.out⟩
  | true =>
  rw [hk] at hN
  rw [Bool.true_and]
  generalize decide (c.size = 32) = bc at *
  cases bc with
  | false =>
    rw [Bool.false_and]
    go_enter Tryz.func153, Tryz.ntmps153
    go_wp2_with fail
    rw [← HW1.out]
    refine hN.mono ?_
    rintro e w1 ⟨rfl, rfl⟩
    go_wp2_with fail
    refine hA.mono ?_
    rintro e w2 ⟨rfl, b2⟩
    go_wp2_with fail
    go_ret
    exact ⟨rfl, chainB B1.out b2⟩
  | true =>
  rw [Bool.true_and]
  cases g with
  | true =>
    rw [if_pos rfl]
    have EQ : ∀ w, (binOp .eql 66 (.agg #[.string n, .string c, .string s, .string v, .bool true]) (.agg #[.string n, .string c, .string ByteArray.empty, .string ByteArray.empty, .bool true])).run Tryz.prog w = .ok (.bool (emB s && emB v)) w := fun w => by rw [eql_fld, eqF_gone]
    generalize (emB s && emB v) = R at *
    go_enter Tryz.func153, Tryz.ntmps153
    go_wp2_with fail
    rw [← HW1.out]
    refine hN.mono ?_
    rintro e w1 ⟨rfl, rfl⟩
    go_wp2_with fail
    refine hA.mono ?_
    rintro e w2 ⟨rfl, b2⟩
    clear x0 x1 x2 x3 x4 y0
    obtain ⟨x0, x1, x2, x3, x4⟩ := HX.out w2 b2
    have BR : Hid (Below w1.heap.size w1 w2.drew) := b2.drew
    go_wp2_with fail
    go_region_held3 (fun w' => w'.cell? ⟨w.heap.size, 0, none⟩ = some (.string n) ∧ w'.cell? ⟨w.heap.size, 1, none⟩ = some (.string c) ∧ w'.cell? ⟨w.heap.size, 2, none⟩ = some (.string s) ∧ w'.cell? ⟨w.heap.size, 3, none⟩ = some (.string v) ∧ w'.cell? ⟨w.heap.size, 4, none⟩ = some (.bool true)) ((first | exact HX.out _ BR.out | exact HX.out _ z1)) (first
      | (go_at_call 164; with_reducible refine (HG.out _).mono ?_; rintro e x9 ⟨rfl, z0⟩; have z1 : Below w1.heap.size w1 x9 := chainB BR.out z0))
    all_goals
      go_wp2_with fail
      go_ret
      exact ⟨rfl, chainB B1.out z1⟩
  | false =>
    rw [if_neg (by exact Bool.false_ne_true)]
    obtain ⟨C, hC⟩ : ∃ C, C = cmB n s v := ⟨_, rfl⟩
    rw [← hC] at HC ⊢
    clear hC HF
    have EQ : ∀ w, (binOp .eql 66 (.agg #[.string n, .string c, .string s, .string v, .bool false]) (.agg #[.string n, .string C, .string s, .string v, .bool false])).run Tryz.prog w = .ok (.bool (c.toList == C.toList)) w := fun w => by rw [eql_fld, eqF_there]
    generalize (c.toList == C.toList) = R at *
    go_enter Tryz.func153, Tryz.ntmps153
    go_wp2_with fail
    rw [← HW1.out]
    refine hN.mono ?_
    rintro e w1 ⟨rfl, rfl⟩
    go_wp2_with fail
    refine hA.mono ?_
    rintro e w2 ⟨rfl, b2⟩
    clear x0 x1 x2 x3 x4 y0
    obtain ⟨x0, x1, x2, x3, x4⟩ := HX.out w2 b2
    have BR : Hid (Below w1.heap.size w1 w2.drew) := b2.drew
    go_wp2_with fail
    go_region_held3 (fun w' => w'.cell? ⟨w.heap.size, 0, none⟩ = some (.string n) ∧ w'.cell? ⟨w.heap.size, 1, none⟩ = some (.string c) ∧ w'.cell? ⟨w.heap.size, 2, none⟩ = some (.string s) ∧ w'.cell? ⟨w.heap.size, 3, none⟩ = some (.string v) ∧ w'.cell? ⟨w.heap.size, 4, none⟩ = some (.bool false)) ((first | exact HX.out _ BR.out | exact HX.out _ z1)) (first
      | (go_at_call 167; with_reducible refine (HC.out _ (HTb.out.to BR.out)).mono ?_; rintro e x9 ⟨rfl, z0⟩; have z1 : Below w1.heap.size w1 x9 := chainB BR.out z0))
    all_goals
      go_wp2_with fail
      go_ret
      exact ⟨rfl, chainB B1.out z1⟩
end Go.Proofs.YthkmeneepkaedaaGreatDoor
/-
  Of two texts: not less is less the other way round, or alike.
-/
namespace Go.Proofs.YthkmeneepkaedaaGreatDoor
open Go.RowKit
set_option linter.unusedVariables false

theorem bl_not : ∀ (x y : List UInt8), (Op.bytesLess y x || y == x) = !Op.bytesLess x y
  | [], [] => rfl
  | [], b :: y => by simp [Op.bytesLess]
  | a :: x, [] => by simp [Op.bytesLess]
  | a :: x, b :: y => by
    have ih := bl_not x y
    simp only [Op.bytesLess]
    by_cases h1 : a < b
    · have h2 : ¬ b < a := UInt8.lt_asymm h1
      have h3 : ¬ b = a := fun h => by subst h; exact UInt8.lt_irrefl _ h1
      simp [h1, h2, h3]
    · by_cases h2 : b < a
      · have h3 : ¬ a = b := fun h => by subst h; exact UInt8.lt_irrefl _ h2
        simp [h1, h2, h3]
      · have h3 : a = b := UInt8.le_antisymm (UInt8.not_lt.1 h2) (UInt8.not_lt.1 h1)
        subst h3
        simpa [h1] using ih
end Go.Proofs.YthkmeneepkaedaaGreatDoor
