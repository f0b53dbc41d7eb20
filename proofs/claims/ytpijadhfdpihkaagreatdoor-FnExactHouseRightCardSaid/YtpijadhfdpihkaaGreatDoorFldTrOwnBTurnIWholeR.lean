/-
  Parts of one proof, laid as one text: FldTr, OwnB, TurnI, WholeR; what each says stands at its head.
-/
import Derived.Test.YtpijadhfdpihkaaGreatDoorRows
import Derived.Test.YtpijadhfdpihkaaGreatDoorBytesDigMath
import Derived.Test.YtpijadhfdpihkaaGreatDoorTimeBPutMathPutNum
import Derived.Test.YtpijadhfdpihkaaGreatDoorSlASlBBxKOwnS
import Derived.Test.YtpijadhfdpihkaaGreatDoorAsDAs2CodeOfTimeIGrK
import Derived.Test.YtpijadhfdpihkaaGreatDoorFldRiseScanMath
import Derived.Test.YtpijadhfdpihkaaGreatDoorGetValGetTxtNumMathFldRdNumFromTmbMath
import Derived.Test.YtpijadhfdpihkaaGreatDoorJoinedPutTextFldMath
import Derived.Test.YtpijadhfdpihkaaGreatDoorFldNFldIsFldTb
import Derived.Handy
import Derived.WalkSpells
import Derived.OwnWalk
import Derived.Deep.Cut
import Derived.WalkSmall
import Derived.ArgAppend
import Derived.Lib.LazyBuf
import Derived.Laws.BytesArg
import Derived.Laws.OwnMore
import Derived.Deep.AppendLies
import Derived.Laws.Rows
import Derived.Laws.Tables
import Derived.Laws.ResultCell
import Derived.Deep.WholeRow
/-
  What the specification's TombRead and LeafKind answer.
  Conditions: the text fits the form's own reach.
-/
namespace Go.Proofs.YtpijadhfdpihkaaGreatDoor
open Go.RowKit Go.Lib
set_option linter.unusedVariables false
set_option maxRecDepth 20000

theorem ba_eq {a b : ByteArray} (h : a.toList = b.toList) : a = b := by
  apply ByteArray.ext; apply Array.ext'
  rw [← ByteArray.toList_eq, ← ByteArray.toList_eq]; exact h
theorem ba_beq (a b : ByteArray) : (a.toList == b.toList) = decide (a = b) := by
  by_cases h : a = b
  · subst h; simp
  · rw [decide_eq_false h]
    exact beq_eq_false_iff_ne.2 (fun e => h (ba_eq e))
theorem ba_nil (a : ByteArray) : a.toList.isEmpty = decide (a.size = 0) := by
  rw [ByteArray.toList_eq]
  by_cases h : a.size = 0
  · rw [decide_eq_true h]
    have : a.data.toList.length = 0 := by rw [sz_list]; exact h
    simp [List.length_eq_zero_iff.1 this]
  · rw [decide_eq_false h]
    cases e : a.data.toList with
    | nil => exfalso; apply h; rw [← sz_list, e]; rfl
    | cons => rfl
/-- A reader's box and a Tomb's beside it. -/
structure RbS (W : World) (P Z : Nat) (t : ByteArray) (a : Int) (bd : Bool) (cs : Array Value) (x : World) : Prop where
  bel : Below W.heap.size W x
  rd : Bxs x P 110 #[.string t, .int .i64 a, .bool bd]
  box : Bxs x Z 95 cs
  hP : W.heap.size ≤ P
  hZ : W.heap.size ≤ Z
  ne : Z ≠ P
theorem RbS.call {W : World} {P Z : Nat} {t : ByteArray} {a a' : Int} {bd bd' : Bool} {cs : Array Value} {x y : World} (h : RbS W P Z t a bd cs x) (hr : Bxs y P 110 #[.string t, .int .i64 a', .bool bd']) (hg : x.grownBy y (some P)) : RbS W P Z t a' bd' cs y :=
  ⟨h.bel.grown hg h.bel.size (fun j hj => by cases hj; exact h.hP), hr, h.box.grown hg (fun e => h.ne (by cases e; rfl)), h.hP, h.hZ, h.ne⟩
theorem RbS.put {W : World} {P Z : Nat} {t : ByteArray} {a : Int} {bd : Bool} {cs : Array Value} {x : World} (h : RbS W P Z t a bd cs x) (i : Nat) (v : Value) : RbS W P Z t a bd (cs.setIfInBounds i v) (x.setCell ⟨Z, i, none⟩ v) :=
  ⟨h.bel.setCell h.hZ _, h.rd.other _ _ h.ne _, h.box.set i v, h.hP, h.hZ, h.ne⟩
theorem trC_bad {t : ByteArray} (h : ¬ 8000 < t.size) (hb : trBad t = true) : trC t = 3 ∧ trO t = tmZ := by
  have hc : trC t = 3 := by unfold trC; rw [if_neg h, if_pos hb]
  exact ⟨hc, by unfold trO; rw [if_neg (by omega)]⟩
theorem trC_good {t : ByteArray} (h : ¬ 8000 < t.size) (hb : trBad t = false) : trC t = 0 ∧ trO t = trT t := by
  have hc : trC t = 0 := by unfold trC; rw [if_neg h, if_neg (by rw [hb]; exact Bool.false_ne_true)]
  exact ⟨hc, by unfold trO; rw [if_pos hc]⟩
set_option maxHeartbeats 4000000 in
theorem specTombRead_any (t : ByteArray) (w : World) (ht : t.size ≤ maxLen) :
    Calls Tryz.prog 47 #[.string t] w fun e w' => e = .returned (tmO (trO t) (trC t)) ∧ Below w.heap.size w w' := by
  obtain ⟨W1, hW1⟩ : ∃ W1, W1 = w.alloc (.cells #[.int .i64 0, .int .i64 0, .int .i64 0, .int .i64 0, .int .i64 0] 97) := ⟨_, rfl⟩
  have HW1 : Hid (W1 = w.alloc (.cells #[.int .i64 0, .int .i64 0, .int .i64 0, .int .i64 0, .int .i64 0] 97)) := hW1
  have HS1 : Hid (W1.heap.size = w.heap.size + 1) := by rw [hW1]; show _ = _; simp
  have K1 : Hid (Bxs W1 w.heap.size 97 #[.int .i64 0, .int .i64 0, .int .i64 0, .int .i64 0, .int .i64 0]) := by rw [hW1]; exact Bxs.new _ _ _
  have B1 : Hid (Below w.heap.size w W1) := by rw [hW1]; exact (Below.refl _ _).alloc (Nat.le_refl _) _
  have HEr : Hid (∀ (y : World) (c : Int) (T : Tmb) (x0 x1 x2 x3 x4 : Value), Below W1.heap.size W1 y → trC t = c → trO t = T → Ending.returned (.agg #[.int .i64 T.r, .int .i64 T.f, .int .i64 T.y, .int .i64 T.a, .int .i64 c]) = .returned (tmO (trO t) (trC t)) ∧ Below w.heap.size w (((((y.setCell ⟨w.heap.size, 0, none⟩ x0).setCell ⟨w.heap.size, 1, none⟩ x1).setCell ⟨w.heap.size, 2, none⟩ x2).setCell ⟨w.heap.size, 3, none⟩ x3).setCell ⟨w.heap.size, 4, none⟩ x4)) := by
    intro y c T x0 x1 x2 x3 x4 hb hc hT
    rw [hc, hT]
    exact ⟨rfl, below_set5 (chainB B1.out hb) (Nat.le_refl _) _ _ _ _ _⟩
  clear hW1
  unfold maxLen at ht
  by_cases h8 : 8000 < t.size
  · have hC : trC t = 2 := if_pos h8
    have hO : trO t = tmZ := if_neg (by rw [hC]; decide)
    have d8 : decide (8000 < (t.size : Int)) = true := decide_eq_true (by omega)
    have HE := fun x0 x1 x2 x3 x4 => HEr.out W1 2 tmZ x0 x1 x2 x3 x4 (Below.refl _ _) hC hO
    rw [HW1.out] at HE
    have HE : Hid _ := HE
    clear HEr h8 hC hO
    go_enter Tryz.func47, Tryz.ntmps47
    go_upto_region 2 with fail
    rw [← HW1.out] at HE ⊢
    obtain ⟨r0, r1, r2, r3, r4⟩ := K1.out.five
    have f0 := K1.out.fr 0
    have f1 := K1.out.fr 1
    have f2 := K1.out.fr 2
    have f3 := K1.out.fr 3
    have f4 := K1.out.fr 4
    go_wp2_with fail
    refine bodyPost_ret (v := .agg #[.int .i64 0, .int .i64 0, .int .i64 0, .int .i64 0, .int .i64 2]) (by simp [results, Tryz.results47, go_sem, r0, r1, r2, r3, r4]) rfl ?_
    exact HE.out _ _ _ _ _
  have d8 : decide (8000 < (t.size : Int)) = false := decide_eq_false (by omega)
  have ht8 : t.size ≤ 8000 := by omega
  obtain ⟨Q, hQw⟩ : ∃ Q, Q = w.heap.size + 1 := ⟨_, rfl⟩
  have hQ : Q = W1.heap.size := by rw [hQw, HS1.out]
  have HNx : Hid (∀ (a : Int) (bd : Bool) (x : World), a ≤ 9223372036854775807 → Bxs x Q 110 #[.string t, .int .i64 a, .bool bd] → Calls Tryz.prog 64 #[.pointer (some ⟨Q, 0, none⟩)] x fun e w' => e = .returned (.int .i64 (rnN t a bd)) ∧ Bxs w' Q 110 #[.string t, .int .i64 (rnA t a bd), .bool (rnB t a bd)] ∧ x.grownBy w' (some Q)) := fun a bd x ha hb => rdNum_any Q t a bd x hb ht8 ha
  have HGood : Hid (trBad t = false → trC t = 0 ∧ trO t = trT t) := trC_good h8
  have HBad : Hid (trBad t = true → trC t = 3 ∧ trO t = tmZ) := trC_bad h8
  have l1 : trA1 t ≤ 9223372036854775807 := rnA_top t 1 false (by omega) ht8
  have l2 : trA2 t ≤ 9223372036854775807 := rnA_top t _ _ l1 ht8
  have l3 : trA3 t ≤ 9223372036854775807 := rnA_top t _ _ l2 ht8
  obtain ⟨n1, hn1⟩ : ∃ n, n = rnN t 1 false := ⟨_, rfl⟩
  obtain ⟨n2, hn2⟩ : ∃ n, n = rnN t (trA1 t) (trB1 t) := ⟨_, rfl⟩
  obtain ⟨n3, hn3⟩ : ∃ n, n = rnN t (trA2 t) (trB2 t) := ⟨_, rfl⟩
  obtain ⟨n4, hn4⟩ : ∃ n, n = rnN t (trA3 t) (trB3 t) := ⟨_, rfl⟩
  obtain ⟨a4, ha4⟩ : ∃ n, n = rnA t (trA3 t) (trB3 t) := ⟨_, rfl⟩
  obtain ⟨b4, hb4⟩ : ∃ n, n = trBd t := ⟨_, rfl⟩
  have HT : Hid (trT t = ⟨n1, n2, n3, n4⟩) := by show _ = _; rw [hn1, hn2, hn3, hn4]; rfl
  have HBd : Hid (trBad t = (b4 || decide (t.size = 0) || !decide (tmT ⟨n1, n2, n3, n4⟩ = t))) := by show _ = _; unfold trBad; rw [HT.out, hb4]
  have C1 : Hid (∀ x, Bxs x Q 110 #[.string t, .int .i64 1, .bool false] → Calls Tryz.prog 64 #[.pointer (some ⟨Q, 0, none⟩)] x fun e w' => e = .returned (.int .i64 n1) ∧ Bxs w' Q 110 #[.string t, .int .i64 (trA1 t), .bool (trB1 t)] ∧ x.grownBy w' (some Q)) := by rw [hn1]; exact fun x hx => HNx.out 1 false x (by omega) hx
  have C2 : Hid (∀ x, Bxs x Q 110 #[.string t, .int .i64 (trA1 t), .bool (trB1 t)] → Calls Tryz.prog 64 #[.pointer (some ⟨Q, 0, none⟩)] x fun e w' => e = .returned (.int .i64 n2) ∧ Bxs w' Q 110 #[.string t, .int .i64 (trA2 t), .bool (trB2 t)] ∧ x.grownBy w' (some Q)) := by rw [hn2]; exact fun x hx => HNx.out _ _ x l1 hx
  have C3 : Hid (∀ x, Bxs x Q 110 #[.string t, .int .i64 (trA2 t), .bool (trB2 t)] → Calls Tryz.prog 64 #[.pointer (some ⟨Q, 0, none⟩)] x fun e w' => e = .returned (.int .i64 n3) ∧ Bxs w' Q 110 #[.string t, .int .i64 (trA3 t), .bool (trB3 t)] ∧ x.grownBy w' (some Q)) := by rw [hn3]; exact fun x hx => HNx.out _ _ x l2 hx
  have C4 : Hid (∀ x, Bxs x Q 110 #[.string t, .int .i64 (trA3 t), .bool (trB3 t)] → Calls Tryz.prog 64 #[.pointer (some ⟨Q, 0, none⟩)] x fun e w' => e = .returned (.int .i64 n4) ∧ Bxs w' Q 110 #[.string t, .int .i64 a4, .bool b4] ∧ x.grownBy w' (some Q)) := by rw [hn4, ha4, hb4]; exact fun x hx => HNx.out _ _ x l3 hx
  have CT : Hid (∀ x, Calls Tryz.prog 65 #[.agg #[.int .i64 n1, .int .i64 n2, .int .i64 n3, .int .i64 n4]] x fun e w' => e = .returned (.string (tmT ⟨n1, n2, n3, n4⟩)) ∧ Below x.heap.size x w') := fun x => specTombText_any ⟨n1, n2, n3, n4⟩ x
  obtain ⟨W2, hW2⟩ : ∃ W2, W2 = W1.alloc (.cells #[.string t, .int .i64 1, .bool false] 110) := ⟨_, rfl⟩
  have KP : Hid (Bxs W2 Q 110 #[.string t, .int .i64 1, .bool false]) := by rw [hW2, hQ]; exact Bxs.new _ _ _
  have B2 : Hid (Below W1.heap.size W1 W2) := by rw [hW2]; exact (Below.refl _ _).alloc (Nat.le_refl _) _
  have HW2 : Hid (W2 = W1.alloc (.cells #[.string t, .int .i64 1, .bool false] 110)) := hW2
  have HQd : Hid (Q = w.heap.size + 1) := hQw
  have HQs : Hid (W1.heap.size ≤ Q) := by show _ ≤ _; omega
  have e0 := ba_nil t
  have eT := ba_beq (tmT ⟨n1, n2, n3, n4⟩) t
  generalize tmT ⟨n1, n2, n3, n4⟩ = TX at *
  have E0 : Hid (t.toList.isEmpty = decide (t.size = 0)) := e0
  have ET : Hid ((TX.toList == t.toList) = decide (TX = t)) := eT
  clear hn1 hn2 hn3 hn4 ha4 hb4 HNx l1 l2 l3 h8 hW2 hQ hQw e0 eT
  go_enter Tryz.func47, Tryz.ntmps47
  go_upto_region 4 with fail
  rw [← HW1.out]
  rw [← HW2.out, ← HQd.out]
  clear HW2 HW1 HQd d8
  go_wp2_with fail
  refine (C1.out W2 KP.out).mono ?_
  rintro e y1 ⟨rfl, kb1, hg1⟩
  go_upto_region 5 with fail
  obtain ⟨y2, hy2⟩ : ∃ y2, y2 = y1.alloc (.cells #[.int .i64 n1, .int .i64 0, .int .i64 0, .int .i64 0] 95) := ⟨_, rfl⟩
  rw [← hy2]
  obtain ⟨Z, hZ⟩ : ∃ Z, Z = y1.heap.size := ⟨_, rfl⟩
  have S2 : RbS W1 Q Z t (trA1 t) (trB1 t) #[.int .i64 n1, .int .i64 0, .int .i64 0, .int .i64 0] y2 := by
    have hz1 := kb1.lt
    have b1 : Below W1.heap.size W1 y1 := B2.out.grown hg1 B2.out.size (fun j hj => by cases hj; exact HQs.out)
    rw [hy2, hZ]
    exact ⟨alB b1 _, kb1.alloc _, Bxs.new _ _ _, HQs.out, b1.size, by omega⟩
  rw [← hZ]
  have S2' : Hid (RbS W1 Q Z t (trA1 t) (trB1 t) #[.int .i64 n1, .int .i64 0, .int .i64 0, .int .i64 0] y2) := S2
  clear hy2 hZ S2 kb1 hg1 KP B2
  go_wp2_with fail
  refine (C2.out y2 S2'.out.rd).mono ?_
  rintro e z1 ⟨rfl, kb, hg⟩
  have S := S2'.out.call kb hg
  have p1 : z1.cell? ⟨Z, 1, none⟩ = some (.int .i64 0) := S.box.cell 1
  have f1 := S.box.fr 1
  have T1 : Hid (RbS W1 Q Z t (trA2 t) (trB2 t) #[.int .i64 n1, .int .i64 n2, .int .i64 0, .int .i64 0] (z1.setCell ⟨Z, 1, none⟩ (.int .i64 n2))) := S.put 1 _
  clear S kb hg S2'
  go_upto_region 6 with fail
  obtain ⟨u1, hu1⟩ : ∃ u1, u1 = z1.setCell ⟨Z, 1, none⟩ (.int .i64 n2) := ⟨_, rfl⟩
  rw [← hu1] at T1 ⊢
  have S3' : Hid (RbS W1 Q Z t (trA2 t) (trB2 t) #[.int .i64 n1, .int .i64 n2, .int .i64 0, .int .i64 0] u1) := T1.out
  clear hu1 T1 p1 f1
  go_wp2_with fail
  refine (C3.out u1 S3'.out.rd).mono ?_
  rintro e z2 ⟨rfl, kb, hg⟩
  have S := S3'.out.call kb hg
  have p2 : z2.cell? ⟨Z, 2, none⟩ = some (.int .i64 0) := S.box.cell 2
  have f2 := S.box.fr 2
  have T2 : Hid (RbS W1 Q Z t (trA3 t) (trB3 t) #[.int .i64 n1, .int .i64 n2, .int .i64 n3, .int .i64 0] (z2.setCell ⟨Z, 2, none⟩ (.int .i64 n3))) := S.put 2 _
  clear S kb hg S3'
  go_upto_region 7 with fail
  obtain ⟨u2, hu2⟩ : ∃ u2, u2 = z2.setCell ⟨Z, 2, none⟩ (.int .i64 n3) := ⟨_, rfl⟩
  rw [← hu2] at T2 ⊢
  have S4' : Hid (RbS W1 Q Z t (trA3 t) (trB3 t) #[.int .i64 n1, .int .i64 n2, .int .i64 n3, .int .i64 0] u2) := T2.out
  clear hu2 T2 p2 f2
  go_wp2_with fail
  refine (C4.out u2 S4'.out.rd).mono ?_
  rintro e z3 ⟨rfl, kb, hg⟩
  have S := S4'.out.call kb hg
  have p3 : z3.cell? ⟨Z, 3, none⟩ = some (.int .i64 0) := S.box.cell 3
  have f3 := S.box.fr 3
  have T3 : Hid (RbS W1 Q Z t a4 b4 #[.int .i64 n1, .int .i64 n2, .int .i64 n3, .int .i64 n4] (z3.setCell ⟨Z, 3, none⟩ (.int .i64 n4))) := S.put 3 _
  clear S kb hg S4'
  go_upto_region 8 with fail
  obtain ⟨u3, hu3⟩ : ∃ u3, u3 = z3.setCell ⟨Z, 3, none⟩ (.int .i64 n4) := ⟨_, rfl⟩
  rw [← hu3] at T3 ⊢
  have S5' : Hid (RbS W1 Q Z t a4 b4 #[.int .i64 n1, .int .i64 n2, .int .i64 n3, .int .i64 n4] u3) := T3.out
  clear hu3 T3 p3 f3
  have q2 : u3.cell? ⟨Q, 2, none⟩ = some (.bool b4) := S5'.out.rd.cell 2
  obtain ⟨c0, c1, c2, c3⟩ := S5'.out.box.four
  have K9 : Hid (Bxs u3 w.heap.size 97 #[.int .i64 0, .int .i64 0, .int .i64 0, .int .i64 0, .int .i64 0]) := K1.out.below S5'.out.bel
  have HE3 : Hid (trBad t = true → ∀ (y : World), Below u3.heap.size u3 y → ∀ x0 x1 x2 x3 x4, Ending.returned (.agg #[.int .i64 0, .int .i64 0, .int .i64 0, .int .i64 0, .int .i64 3]) = .returned (tmO (trO t) (trC t)) ∧ Below w.heap.size w (((((y.setCell ⟨w.heap.size, 0, none⟩ x0).setCell ⟨w.heap.size, 1, none⟩ x1).setCell ⟨w.heap.size, 2, none⟩ x2).setCell ⟨w.heap.size, 3, none⟩ x3).setCell ⟨w.heap.size, 4, none⟩ x4)) := fun h y hy x0 x1 x2 x3 x4 => HEr.out y 3 tmZ x0 x1 x2 x3 x4 (chainB S5'.out.bel hy) (HBad.out h).1 (HBad.out h).2
  have HE0 : Hid (trBad t = false → ∀ (y : World), Below u3.heap.size u3 y → ∀ x0 x1 x2 x3 x4, Ending.returned (.agg #[.int .i64 n1, .int .i64 n2, .int .i64 n3, .int .i64 n4, .int .i64 0]) = .returned (tmO (trO t) (trC t)) ∧ Below w.heap.size w (((((y.setCell ⟨w.heap.size, 0, none⟩ x0).setCell ⟨w.heap.size, 1, none⟩ x1).setCell ⟨w.heap.size, 2, none⟩ x2).setCell ⟨w.heap.size, 3, none⟩ x3).setCell ⟨w.heap.size, 4, none⟩ x4)) := fun h y hy x0 x1 x2 x3 x4 => HEr.out y 0 ⟨n1, n2, n3, n4⟩ x0 x1 x2 x3 x4 (chainB S5'.out.bel hy) (HGood.out h).1 ((HGood.out h).2.trans HT.out)
  have BZ : Hid (Bxs u3 Z 95 #[.int .i64 n1, .int .i64 n2, .int .i64 n3, .int .i64 n4]) := S5'.out.box
  rw [HBd.out] at HE3 HE0
  clear S5' HEr HBad HGood HT HBd C1 C2 C3 C4 K1 B1 HS1
  cases b4 with
  | true =>
    have HE : Hid _ := HE3.out rfl u3 (Below.refl _ _)
    clear HE3 HE0
    obtain ⟨r0, r1, r2, r3, r4⟩ := (K9.out).five
    have f0 := (K9.out).fr 0
    have f1 := (K9.out).fr 1
    have f2 := (K9.out).fr 2
    have f3 := (K9.out).fr 3
    have f4 := (K9.out).fr 4
    go_wp2_with fail
    refine bodyPost_ret (v := .agg #[.int .i64 0, .int .i64 0, .int .i64 0, .int .i64 0, .int .i64 3]) (by simp [results, Tryz.results47, go_sem, r0, r1, r2, r3, r4]) rfl ?_
    exact HE.out _ _ _ _ _
  | false =>
  cases h0 : t.toList.isEmpty with
  | true =>
    have d0 : decide (t.size = 0) = true := by rw [← E0.out]; exact h0
    have HE : Hid _ := HE3.out (by rw [d0]; rfl) u3 (Below.refl _ _)
    clear HE3 HE0 d0 E0
    obtain ⟨r0, r1, r2, r3, r4⟩ := (K9.out).five
    have f0 := (K9.out).fr 0
    have f1 := (K9.out).fr 1
    have f2 := (K9.out).fr 2
    have f3 := (K9.out).fr 3
    have f4 := (K9.out).fr 4
    go_wp2_with fail
    refine bodyPost_ret (v := .agg #[.int .i64 0, .int .i64 0, .int .i64 0, .int .i64 0, .int .i64 3]) (by simp [results, Tryz.results47, go_sem, r0, r1, r2, r3, r4]) rfl ?_
    exact HE.out _ _ _ _ _
  | false =>
    have d0 : decide (t.size = 0) = false := by rw [← E0.out]; exact h0
    cases h1 : (TX.toList == t.toList) with
    | false =>
      have d1 : decide (TX = t) = false := by rw [← ET.out]; exact h1
      have HE3' : Hid (∀ (y : World), Below u3.heap.size u3 y → ∀ x0 x1 x2 x3 x4, Ending.returned (.agg #[.int .i64 0, .int .i64 0, .int .i64 0, .int .i64 0, .int .i64 3]) = .returned (tmO (trO t) (trC t)) ∧ Below w.heap.size w (((((y.setCell ⟨w.heap.size, 0, none⟩ x0).setCell ⟨w.heap.size, 1, none⟩ x1).setCell ⟨w.heap.size, 2, none⟩ x2).setCell ⟨w.heap.size, 3, none⟩ x3).setCell ⟨w.heap.size, 4, none⟩ x4)) := HE3.out (by rw [d0, d1]; rfl)
      clear HE3 HE0 d0 d1 E0 ET
      go_wp2_with fail
      refine (CT.out u3).mono ?_
      rintro e y9 ⟨rfl, b9⟩
      have HE : Hid _ := HE3'.out y9 b9
      have KK := K9.out.below b9
      clear HE3' 
      obtain ⟨r0, r1, r2, r3, r4⟩ := (KK).five
      have f0 := (KK).fr 0
      have f1 := (KK).fr 1
      have f2 := (KK).fr 2
      have f3 := (KK).fr 3
      have f4 := (KK).fr 4
      clear KK K9 b9
      go_wp2_with fail
      refine bodyPost_ret (v := .agg #[.int .i64 0, .int .i64 0, .int .i64 0, .int .i64 0, .int .i64 3]) (by simp [results, Tryz.results47, go_sem, r0, r1, r2, r3, r4]) rfl ?_
      exact HE.out _ _ _ _ _
    | true =>
      have d1 : decide (TX = t) = true := by rw [← ET.out]; exact h1
      have HE0' : Hid (∀ (y : World), Below u3.heap.size u3 y → ∀ x0 x1 x2 x3 x4, Ending.returned (.agg #[.int .i64 n1, .int .i64 n2, .int .i64 n3, .int .i64 n4, .int .i64 0]) = .returned (tmO (trO t) (trC t)) ∧ Below w.heap.size w (((((y.setCell ⟨w.heap.size, 0, none⟩ x0).setCell ⟨w.heap.size, 1, none⟩ x1).setCell ⟨w.heap.size, 2, none⟩ x2).setCell ⟨w.heap.size, 3, none⟩ x3).setCell ⟨w.heap.size, 4, none⟩ x4)) := HE0.out (by rw [d0, d1]; rfl)
      clear HE3 HE0 d0 d1 E0 ET
      go_wp2_with fail
      refine (CT.out u3).mono ?_
      rintro e y9 ⟨rfl, b9⟩
      have HE : Hid _ := HE0'.out y9 b9
      have KK := K9.out.below b9
      obtain ⟨c0, c1, c2, c3⟩ := (BZ.out.below b9).four
      clear HE0' 
      obtain ⟨r0, r1, r2, r3, r4⟩ := (KK).five
      have f0 := (KK).fr 0
      have f1 := (KK).fr 1
      have f2 := (KK).fr 2
      have f3 := (KK).fr 3
      have f4 := (KK).fr 4
      clear KK K9 b9 BZ
      go_wp2_with fail
      refine bodyPost_ret (v := .agg #[.int .i64 n1, .int .i64 n2, .int .i64 n3, .int .i64 n4, .int .i64 0]) (by simp [results, Tryz.results47, go_sem, r0, r1, r2, r3, r4]) rfl ?_
      exact HE.out _ _ _ _ _
end Go.Proofs.YtpijadhfdpihkaaGreatDoor
/-
  A row of bytes that the call made, one byte more at a time, also where the row came of a string ('[]byte(s)': the run-time's mark behind its last cell).
  Conditions: the row stays below 2^46 bytes.
-/
namespace Go.Proofs.YtpijadhfdpihkaaGreatDoor
open Go.RowKit Go.Lib
set_option linter.unusedVariables false

structure OwnB (w : World) (base g cap : Nat) (xs : List Int) : Prop where
  lo : base ≤ g
  hi : g < w.heap.size
  fit : xs.length ≤ cap
  max : cap ≤ maxLen
  room : ∀ j, j < cap → (w.cell? ⟨g, j, none⟩).isSome = true ∧ w.frozen? ⟨g, j, none⟩ = false
  cells : ∀ j (h : j < xs.length), w.cell? ⟨g, j, none⟩ = some (.int .u8 xs[j])

theorem OwnB.carry {w w' : World} {base g cap : Nat} {xs : List Int} (h : OwnB w base g cap xs) (hs : w.heap.size ≤ w'.heap.size) (hb : w'.heap[g]? = w.heap[g]?) : OwnB w' base g cap xs :=
  ⟨h.lo, Nat.lt_of_lt_of_le h.hi hs, h.fit, h.max, fun j hj => by
    have e1 : w'.cell? ⟨g, j, none⟩ = w.cell? ⟨g, j, none⟩ := World.cell?_of_block hb
    have e2 : w'.frozen? ⟨g, j, none⟩ = w.frozen? ⟨g, j, none⟩ := World.frozen?_of_block hb
    rw [e1, e2]; exact h.room j hj, fun j hj => by
    have e1 : w'.cell? ⟨g, j, none⟩ = w.cell? ⟨g, j, none⟩ := World.cell?_of_block hb
    rw [e1]; exact h.cells j hj⟩
theorem OwnB.drew {w : World} {base g cap : Nat} {xs : List Int} (h : OwnB w base g cap xs) : OwnB w.drew base g cap xs := h.carry (Nat.le_refl _) rfl
theorem OwnB.alloc {w : World} {base g cap : Nat} {xs : List Int} (h : OwnB w base g cap xs) (o : Obj) : OwnB (w.alloc o) base g cap xs :=
  h.carry (by simp) (Below.heap_alloc w o g h.hi)
theorem OwnB.below {w w' : World} {base g cap : Nat} {xs : List Int} (h : OwnB w base g cap xs) (hb : Below w.heap.size w w') : OwnB w' base g cap xs :=
  h.carry hb.size (hb.block g h.hi)

theorem ownB_of_row {w : World} {base g n cap : Nat} {xs : List Int} {T : TypeId} (h : w.ownsRow base T 1 (.slice (some ⟨g, 0, none⟩) n cap) n (xs.map (Value.int .u8))) (hx : xs.length = n) : OwnB w base g cap xs := by
  have hlt := h.lt g rfl
  rcases h.2 with ⟨h0, _⟩ | ⟨g2, cap2, cur, hv, hb, hg, hn, hc, hs, ht⟩
  · cases h0
  · cases hv
    refine ⟨hb, hlt.2, by omega, hc, fun j hj => ?_, fun j hj => ?_⟩
    · have : j < cur.size := by omega
      simp [World.cell?, World.frozen?, hg, this]
    · rw [h.cellAt j (by omega)]
      simp [List.getElem?_eq_getElem hj]

theorem ownB_of_string (w : World) (s : ByteArray) (T : TypeId) (hs : s.size ≤ maxLen) :
    OwnB (w.drew.alloc (.cells (bytesRow s (grownCap w s.size 0 T)) T ((bytesRow s (grownCap w s.size 0 T)).size, (bytesRow s (grownCap w s.size 0 T)).size + 1))) w.heap.size w.heap.size (grownCap w s.size 0 T) (bytesN s) := by
  have hge := grownCap_ge w s.size 0 T
  have hle := grownCap_le_maxLen w s.size 0 T hs
  generalize grownCap w s.size 0 T = C at *
  have hsz : (bytesRow s C).size = C := by
    have : s.data.size = s.size := rfl
    simp [bytesRow, this]; omega
  have hat : (w.drew.alloc (.cells (bytesRow s C) T ((bytesRow s C).size, (bytesRow s C).size + 1))).heap[w.heap.size]? = some (.cells (bytesRow s C) T ((bytesRow s C).size, (bytesRow s C).size + 1)) := heap_alloc_new w.drew _
  refine ⟨Nat.le_refl _, by simp, by rw [bytesN_len]; exact hge, hle, fun j hj => ?_, fun j hj => ?_⟩
  · rw [hsz] at hat ⊢
    refine ⟨?_, ?_⟩
    · have : j < (bytesRow s C).size := by omega
      simp only [World.cell?, hat]
      simp [this]
    · simp only [World.frozen?, hat]
      simp; omega
  · rw [bytesN_len] at hj
    have h2 : j < s.data.size := hj
    simp only [World.cell?, hat]
    simp [bytesRow, bytesN, Array.getElem?_append, hj]

theorem append_b {P : Program} (w : World) (t ty e : TypeId) (i : TypeInfo) (ht : P.underlying t = some (.slice e)) (hi : P.info? e = some i) (hz : i.zero = some (.int .u8 0)) (hz1 : i.size = 1) (hz2 : i.bytes = 1)
    (base g cap : Nat) (xs : List Int) (h : OwnB w base g cap xs) (ad : Addr) (c : Nat) (x : Int) (hx : w.cell? (ad.add 0) = some (.int .u8 x)) (hlen : xs.length < 70368744177664) (hB : base ≤ w.heap.size) :
    ∃ g' cap' w', (Builtin.append_ #[t, t] ty #[.slice (some ⟨g, 0, none⟩) xs.length cap, .slice (some ad) 1 c]).run P w = .ok (.slice (some ⟨g', 0, none⟩) (xs.length + 1) cap') w' ∧
      OwnB w' base g' cap' (xs ++ [x]) ∧ ∀ w0, Below base w0 w → Below base w0 w' := by
  have hnews : ∀ j u, [Value.int .u8 x][j]? = some u → w.cell? (ad.add j) = some u := fun j u hj => by
    match j with
    | 0 => simp at hj; rw [hx, hj]
    | j + 1 => simp at hj
  by_cases hroom : xs.length + 1 ≤ cap
  · have hr := run_append_room_cells (P := P) w t ty e i ht hi g 0 xs.length cap ad 1 c [.int .u8 x] (by rw [hz1]; rfl) hnews (by simp [Value.oneCell']) hroom
      (fun j hj => by rw [hz1]; have : j = 0 := by simpa using hj
                      subst this; simpa using (h.room xs.length (by omega)).1)
      (fun j hj => by rw [hz1]; have : j = 0 := by simpa using hj
                      subst this; simpa using (h.room xs.length (by omega)).2)
    rw [hz1, Nat.zero_add, Nat.mul_one] at hr
    have e0 : (w.setCells g xs.length [.int .u8 x]) = w.setCell ⟨g, xs.length, none⟩ (.int .u8 x) := rfl
    rw [e0] at hr
    have hcs : (w.cell? ⟨g, xs.length, none⟩).isSome = true := (h.room xs.length (by omega)).1
    have hin := World.cell?_setCells_in g [.int .u8 x] xs.length w (fun j hj => by have : j = 0 := by simpa using hj
                                                                                   subst this; exact hcs) 0 (by simp)
    rw [e0] at hin
    have hout : ∀ j, j ≠ xs.length → (w.setCell ⟨g, xs.length, none⟩ (.int .u8 x)).cell? ⟨g, j, none⟩ = w.cell? ⟨g, j, none⟩ := fun j hj => by
      have := World.cell?_setCells_out g [.int .u8 x] xs.length w ⟨g, j, none⟩ (fun _ _ => by simp; omega)
      rwa [e0] at this
    have hfz : ∀ a, (w.setCell ⟨g, xs.length, none⟩ (.int .u8 x)).frozen? a = w.frozen? a := fun a => by
      have := World.frozen?_setCells g [.int .u8 x] xs.length w a
      rwa [e0] at this
    refine ⟨g, cap, _, hr, ⟨h.lo, by simpa using h.hi, by simpa using hroom, h.max, fun j hj => ?_, fun j hj => ?_⟩, fun w0 hb => hb.setCell h.lo _⟩
    · rw [hfz]
      refine ⟨?_, (h.room j hj).2⟩
      by_cases hjn : j = xs.length
      · subst hjn; simp at hin; simp [hin]
      · rw [hout j hjn]; exact (h.room j hj).1
    · by_cases hjn : j = xs.length
      · subst hjn; simp at hin; simp [hin]
      · have hj' : j < xs.length := by simp at hj; omega
        rw [hout j hjn, h.cells j hj', List.getElem_append_left hj']
  · obtain ⟨v', w', hr, hown, hgr⟩ := run_append_arg_grows (P := P) w t ty e i (.int .u8 0) 1 1 ht hi hz hz1 hz2 rfl (by omega) ⟨g, 0, none⟩ xs.length cap (xs.map (Value.int .u8)) (by simp)
      (fun j u hj => by
        have hjl : j < xs.length := by
          rcases Nat.lt_or_ge j xs.length with hh | hh
          · exact hh
          · rw [List.getElem?_eq_none (by simpa using hh)] at hj; cases hj
        have e : (⟨g, 0, none⟩ : Addr).add j = ⟨g, j, none⟩ := by unfold Addr.add; split <;> simp_all
        rw [e, h.cells j hjl]
        simp [List.getElem?_eq_getElem hjl] at hj
        rw [← hj]) ad 1 c [.int .u8 x] rfl hnews (by omega) (by unfold maxLen; omega) (by omega)
    obtain ⟨g', cap', rfl, hbg, hlt⟩ := hown.form (by omega)
    have ho2 := ownB_of_row (xs := xs ++ [x]) (by rw [List.map_append]; exact hown) (by simp)
    refine ⟨g', cap', w', hr, ⟨Nat.le_trans hB hbg, ho2.hi, ho2.fit, ho2.max, ho2.room, ho2.cells⟩, fun w0 hb => hb.grown hgr hB (fun k hk => by cases hk)⟩

theorem wpList_append_run {P : Program} {w : World} {ops : Array Oper} {rest : List Oper} {o : Oper} {a : Act} {Q : Exit → Act → World → Prop} (hgd : o.guard = none) (s x : Operand) (t : TypeId)
    (ho : o.op = .call { callee := .builtin .append, args := #[s, x], argTypes := #[t, t] }) (v1 v2 v' : Value) (w' : World) (hs : a.eval s = v1) (hx : a.eval x = v2)
    (hr : (Builtin.append_ #[t, t] o.type #[v1, v2]).run P w = .ok v' w') (h : wpList P ops Q rest (a.put o.dst v') w') : wpList P ops Q (o :: rest) a w :=
  wpList_plain hgd fun _ hK => by
    unfold Oper.wp execOp
    simp only [ho, resolve, invoke, builtin, Sem.run_bind, Sem.run_pure, Result.andThen_ok, List.map_toArray, List.map_cons, List.map_nil, hs, hx, hr]
    exact hK _ _ h

theorem conv_b {w : World} {base g cap : Nat} {xs : List Int} (h : OwnB w base g cap xs) (off len c : Nat) (hl : off + len ≤ xs.length) :
    (convert 131 9 (.slice (some ⟨g, off, none⟩) len c)).run Tryz.prog w = .ok (.string (strOfNums ((xs.drop off).take len))) w :=
  run_convert_bytes_arg (P := Tryz.prog) w 131 5 Tryz.underlying131 Tryz.underlying5 g off len c ((xs.drop off).take len) (by simp; omega) (fun i hi => by
    rw [h.cells (off + i) (by omega), List.getD_eq_getElem?_getD, List.getElem?_take_of_lt hi, List.getElem?_drop, List.getElem?_eq_getElem (by omega)]; rfl) 9 Tryz.underlying9
end Go.Proofs.YtpijadhfdpihkaaGreatDoor
/-
  The program's turnedRight: a number of 32 bits turned right by 1 to 31 places: 'turnR'.
-/
namespace Go.Proofs.YtpijadhfdpihkaaGreatDoor
open Go.RowKit Go.Lib
set_option linter.unusedVariables false

theorem ret_intT {k : IntKind} {a b : Int} (h : a = b) : Ending.returned (.int k a) = .returned (.int k b) := by rw [h]
theorem bits_or_comm (a b : Int) : bits .or .u32 a b = bits .or .u32 b a := by
  show IntKind.u32.wrap ((BitVec.ofInt 32 a ||| BitVec.ofInt 32 b).toNat : Int) = IntKind.u32.wrap ((BitVec.ofInt 32 b ||| BitVec.ofInt 32 a).toNat : Int)
  rw [BitVec.or_comm]
theorem rot_s (k : Nat) (h0 : 1 ≤ k) (h1 : k ≤ 31) : bits .and .u64 (IntKind.u64.wrap (-(k : Int))) 31 = 32 - (k : Int) := by
  have key : ∀ y : Fin 32, 1 ≤ y.val → bits .and .u64 (IntKind.u64.wrap (-((y.val : Nat) : Int))) 31 = 32 - ((y.val : Nat) : Int) := by decide +kernel
  exact key ⟨k, by omega⟩ h0

set_option maxHeartbeats 400000 in
theorem rot_any (x : Int) (k : Nat) (w : World) (h0 : 0 ≤ x) (h1 : x ≤ 4294967295) (k0 : 1 ≤ k) (k1 : k ≤ 31) :
    Calls Tryz.prog 152 #[.int .u32 x, .int .i64 (-(k : Int))] w fun e w' => e = .returned (.int .u32 (turnR x k)) ∧ w' = w := by
  have hs := rot_s k k0 k1
  have hc : turnR x k = bits .or .u32 (x * 2 ^ (32 - k) % 4294967296) (x / 2 ^ k) := bits_or_comm _ _
  have HC : Hid (turnR x k = bits .or .u32 (x * 2 ^ (32 - k) % 4294967296) (x / 2 ^ k)) := hc
  clear hc
  have e1 : IntKind.u64.wrap (32 - (32 - (k : Int))) = (k : Int) := by rw [IntKind.wrap_u64]; omega
  have e2 : ((32 : Int) - (k : Int)).toNat = 32 - k := by omega
  go_enter Tryz.func152, Tryz.ntmps152
  go_wp2
  go_ret
  exact ⟨ret_intT HC.out.symm, rfl⟩

theorem turnI_c (x c : Int) (w : World) (h0 : 0 ≤ x) (h1 : x ≤ 4294967295) (c0 : 1 ≤ c) (c1 : c ≤ 31) :
    Calls Tryz.prog 140 #[.int .u32 x, .int .i64 c] w fun e w' => e = .returned (.int .u32 (turnR x c.toNat)) ∧ w' = w := by
  obtain ⟨k, rfl⟩ : ∃ k : Nat, c = k := ⟨c.toNat, by omega⟩
  go_enter Tryz.func140, Tryz.ntmps140
  go_wp2_with (go_at_call 152; refine (rot_any _ k _ h0 h1 (by omega) (by omega)).mono ?_; rintro e w' ⟨rfl, rfl⟩)
  go_ret
  exact ⟨rfl, rfl⟩
end Go.Proofs.YtpijadhfdpihkaaGreatDoor
/-
  A whole array by value out of a block, and into one, as one step of a walk; a result that lies in a block.
  Nothing of the program is named here.
-/
namespace Go.Proofs.YtpijadhfdpihkaaGreatDoor
open Go.RowKit Go.Lib
set_option linter.unusedVariables false

theorem wpList_load_row {P : Program} {w : World} {ops : Array Oper} {rest : List Oper} {o : Oper} {a : Act} {Q : Exit → Act → World → Prop} (hgd : o.guard = none) (t : TypeId) (x : Operand)
    (ho : o.op = .load t x) (g : Addr) (v : Value) (hx : a.eval x = .pointer (some g)) (hl : (loadVar t g).run P w = .ok v w)
    (h : wpList P ops Q rest (a.put o.dst v) w) : wpList P ops Q (o :: rest) a w :=
  wpList_plain hgd fun _ hK => by
    unfold Oper.wp execOp
    simp only [ho, hx, Instr.loadAt, Instr.sureAddr, Sem.run_bind, Sem.run_pure, Result.andThen_ok, hl]
    exact hK _ _ h
theorem wpList_store_row {P : Program} {w : World} {ops : Array Oper} {rest : List Oper} {o : Oper} {a : Act} {Q : Exit → Act → World → Prop} (hgd : o.guard = none) (t : TypeId) (x y : Operand)
    (ho : o.op = .store t x y) (hd : o.dst = none) (g : Addr) (v : Value) (w' : World) (hx : a.eval x = .pointer (some g)) (hy : a.eval y = v) (hl : (storeVar t g v).run P w = .ok () w')
    (h : wpList P ops Q rest a w') : wpList P ops Q (o :: rest) a w :=
  wpList_plain hgd fun _ hK => by
    have e : a.put o.dst undef = a := by rw [hd]; rfl
    unfold Oper.wp execOp
    simp only [ho, hx, hy, Instr.storeAt, Instr.sureAddr, Sem.run_bind, Sem.run_pure, Result.andThen_ok, hl]
    exact hK _ _ (by rw [e]; exact h)
theorem results_cell {fn : Func} {p : Tmp} {ty : TypeId} (h : fn.results = #[.cell p ty]) (tmps : Array Value) (P : Program) (w : World) :
    (results fn tmps).run P w = ((asAddr (tmps.getD p undef)).run P w).andThen fun a w₁ => (loadVar ty a).run P w₁ := by
  simp only [results, h]
  simp [Sem.run_bind, Result.andThen]
theorem bodyPost_cell {P : Program} {fn : Func} {R : Ending → World → Prop} {a : Act} {w : World} {p : Tmp} {ty : TypeId} {g : Addr} {v : Value} (h : fn.results = #[.cell p ty]) (hd : a.defers = [])
    (hp : a.tmps.getD p undef = .pointer (some g)) (hl : (loadVar ty g).run P w = .ok v w) (hR : R (.returned v) w) : bodyPost P fn R .ret a w := by
  refine bodyPost_ret (v := v) ?_ hd hR
  rw [results_cell h, hp]
  simp [asAddr, Result.andThen, hl]
end Go.Proofs.YtpijadhfdpihkaaGreatDoor
