/-
  What the specification's AreaPut answers.
  Conditions: the cells of Sectors and Pending hold the texts and the pendings; the text has at most 2^20 bytes.
-/
import Derived.Test.YtkhffoailfnepabGreatDoorRows
import Derived.Test.YtkhffoailfnepabGreatDoorBytesDigMath
import Derived.Test.YtkhffoailfnepabGreatDoorSlASlBOwnSOwnBSrc
import Derived.Test.YtkhffoailfnepabGreatDoorDrawsDrawKitDskMath
import Derived.Test.YtkhffoailfnepabGreatDoorDskRAppSStepAppDskA
import Derived.Test.YtkhffoailfnepabGreatDoorDskSDskCDskT
import Derived.Test.YtkhffoailfnepabGreatDoorDskW
import Derived.Test.YtkhffoailfnepabGreatDoorDskFDskK
import Derived.Test.YtkhffoailfnepabGreatDoorDskLawLawSLawSGLawP
import Derived.Test.YtkhffoailfnepabGreatDoorLawDLwDskLwArLawIPutMathPutNum
import Derived.Test.YtkhffoailfnepabGreatDoorFourSealAreaAAreaF
import Derived.Test.YtkhffoailfnepabGreatDoorGetTextITextMathAreaMath
import Derived.Test.YtkhffoailfnepabGreatDoorStpMathAreaPutMUnsealSSpecGN
import Derived.Test.YtkhffoailfnepabGreatDoorStD
import Derived.Test.YtkhffoailfnepabGreatDoorAreaSeen
import Derived.Test.YtkhffoailfnepabGreatDoorAreaRd
import Derived.Handy
import Derived.WalkSpells
import Derived.OwnWalk
import Derived.Deep.RegionHeld3
import Derived.Deep.Cut
import Derived.Deep.CutRange
namespace Go.Proofs.YtkhffoailfnepabGreatDoor
open Go.RowKit Go.Lib
set_option linter.unusedVariables false
set_option maxRecDepth 20000

/-- A round of putting: the disk in its box, and the box of what a step will answer. -/
structure PuR (W : World) (X Y : Nat) (S : List ByteArray) (P : List Pnd) (v1 v2 : Value) (x : World) : Prop where
  st : StD W X S P v1 v2 x
  y : Bxs x Y 66 #[.slice none 0 0, .slice none 0 0, .string ⟨#[]⟩, .int .i64 0]
  lt : X < Y
theorem PuR.below {W : World} {X Y : Nat} {S : List ByteArray} {P : List Pnd} {v1 v2 : Value} {x x' : World} (h : PuR W X Y S P v1 v2 x) (hb : Below x.heap.size x x') : PuR W X Y S P v1 v2 x' := ⟨h.st.below hb, h.y.below hb, h.lt⟩
theorem PuR.drew {W : World} {X Y : Nat} {S : List ByteArray} {P : List Pnd} {v1 v2 : Value} {x : World} (h : PuR W X Y S P v1 v2 x) : PuR W X Y S P v1 v2 x.drew := h.below (Below.refl _ _).drew
theorem PuR.outs {W : World} {X Y : Nat} {S : List ByteArray} {P : List Pnd} {v1 v2 : Value} {x : World} (h : PuR W X Y S P v1 v2 x) : x.cell? ⟨Y, 0, none⟩ = some (.slice none 0 0) ∧ x.cell? ⟨Y, 1, none⟩ = some (.slice none 0 0) ∧ x.cell? ⟨Y, 2, none⟩ = some (.string ⟨#[]⟩) ∧ x.cell? ⟨Y, 3, none⟩ = some (.int .i64 0) ∧ x.frozen? ⟨Y, 0, none⟩ = false ∧ x.frozen? ⟨Y, 1, none⟩ = false ∧ x.frozen? ⟨Y, 2, none⟩ = false ∧ x.frozen? ⟨Y, 3, none⟩ = false := ⟨h.y.cell 0, h.y.cell 1, h.y.cell 2, h.y.cell 3, h.y.fr 0, h.y.fr 1, h.y.fr 2, h.y.fr 3⟩
/-- What a step answered, in its box. -/
def PuE (W : World) (X Y : Nat) (S : List ByteArray) (P : List Pnd) (c : Int) (x : World) : Prop :=
  ∃ v1 v2 p1 d1 p2 d2 base, StB W X v1 v2 x ∧ Bxs x Y 66 #[.slice p1 S.length d1, .slice p2 P.length d2, .string ByteArray.empty, .int .i64 c] ∧ DskO base S P (.slice p1 S.length d1) (.slice p2 P.length d2) x ∧ X < base
theorem PuE.of {W : World} {X Y : Nat} {S S' : List ByteArray} {P P' : List Pnd} {v1 v2 : Value} {x : World} {p1 : Option Addr} {d1 : Nat} {p2 : Option Addr} {d2 base : Nat} {c : Int} (h : PuR W X Y S P v1 v2 x) (ho : DskO base S' P' (.slice p1 S'.length d1) (.slice p2 P'.length d2) x) (hb : Y < base) :
    PuE W X Y S' P' c ((((x.setCell ⟨Y, 0, none⟩ (.slice p1 S'.length d1)).setCell ⟨Y, 1, none⟩ (.slice p2 P'.length d2)).setCell ⟨Y, 2, none⟩ (.string ByteArray.empty)).setCell ⟨Y, 3, none⟩ (.int .i64 c)) :=
  ⟨v1, v2, p1, d1, p2, d2, base, h.st.b.set4 h.lt _ _ _ _, (((h.y.set 0 _).set 1 _).set 2 _).set 3 _, ho.set4 hb _ _ _ _, by have := h.lt; omega⟩
theorem puL_at {ss : List ByteArray} {ps : List Pnd} {t : ByteArray} {j : Nat} (hj : j < (puL ss ps t).length) : (j < needN t.size → (puL ss ps t)[j] = .wr (1 + otherN ss ps * sideN ss.length + j) (pieceB t j)) ∧ (j = needN t.size + 1 → (puL ss ps t)[j] = .wr 0 (headB ((arG ss ps + 1 : Nat) : Int) (otherN ss ps : Int) (t.size : Int))) ∧ (¬ j < needN t.size → j ≠ needN t.size + 1 → (puL ss ps t)[j] = .fl) := by
  have hl : (puL ss ps t).length = needN t.size + 3 := putL_len _ _ _ _
  have hw := putW_len (1 + otherN ss ps * sideN ss.length) t (needN t.size)
  have key : ∀ x, (putW (1 + otherN ss ps * sideN ss.length) t (needN t.size) ++ [.fl, .wr 0 (headB ((arG ss ps + 1 : Nat) : Int) (otherN ss ps : Int) (t.size : Int)), .fl])[j]? = some x → (puL ss ps t)[j] = x := fun x h => by
    have h' : (puL ss ps t)[j]? = some x := h
    rw [List.getElem?_eq_getElem hj] at h'
    exact Option.some.inj h'
  refine ⟨fun h => key _ ?_, fun h => key _ ?_, fun h1 h2 => key _ ?_⟩
  · rw [List.getElem?_append_left (by omega)]
    simp [putW, h]
  · rw [List.getElem?_append_right (by omega), hw, h, show needN t.size + 1 - needN t.size = 1 by omega]; rfl
  · have : j = needN t.size ∨ j = needN t.size + 2 := by omega
    rw [List.getElem?_append_right (by omega), hw]
    rcases this with e | e
    · rw [e, show needN t.size - needN t.size = 0 by omega]; rfl
    · rw [e, show needN t.size + 2 - needN t.size = 2 by omega]; rfl
theorem piece_run (t : ByteArray) (j : Nat) (hj : j < needN t.size) (x : World) : (Instr.slice 9 (.string t) (some (.int .i64 ((j : Int) * 64))) (some (.int .i64 ((min t.size (64 * (j + 1)) : Nat) : Int))) none).run Tryz.prog x = .ok (.string (pieceB t j)) x := by
  have hlt : 64 * j < t.size := by unfold needN at hj; omega
  have h := run_slice_string (P := Tryz.prog) x 9 t .i64 .i64 ((j : Int) * 64) ((min t.size (64 * (j + 1)) : Nat) : Int) Tryz.underlying9 (by omega) (by omega) (by omega)
  rw [h, show ((j : Int) * 64).toNat = 64 * j by omega, Int.toNat_natCast]
  rfl
set_option maxHeartbeats 8000000 in
theorem specAreaPut_any (q1 : Option Addr) (c1 : Nat) (ss : List ByteArray) (q2 : Option Addr) (c2 : Nat) (ps : List Pnd) (t : ByteArray) (k : Int) (w : World) (h1 : TxtAt w q1 ss) (h2 : PndAt w q2 ps) (n1 : ss.length ≤ 1048576) (n2 : ps.length ≤ 1048576) (m1 : ss.length ≤ c1) (m2 : ps.length ≤ c2) (hts : t.size ≤ 1048576) :
    Calls Tryz.prog 13 #[.agg #[.slice q1 ss.length c1, .slice q2 ps.length c2], .string t, .int .i64 k] w fun e w' => ∃ v1 v2, e = .returned (.agg #[v1, v2, .string ByteArray.empty, .int .i64 0, .int .i64 (puC ss ps t k)]) ∧ DskO w.heap.size (puS ss ps t k) (puP ss ps t k) v1 v2 w' ∧ Below w.heap.size w w' := by
  obtain ⟨W2, hW2⟩ : ∃ W2, W2 = (w.alloc (.cells #[.slice q1 ss.length c1, .slice q2 ps.length c2] 26)).alloc (.cells #[.slice none 0 0, .slice none 0 0, .string ⟨#[]⟩, .int .i64 0, .int .i64 0] 31) := ⟨_, rfl⟩
  have HW2 : Hid (W2 = (w.alloc (.cells #[.slice q1 ss.length c1, .slice q2 ps.length c2] 26)).alloc (.cells #[.slice none 0 0, .slice none 0 0, .string ⟨#[]⟩, .int .i64 0, .int .i64 0] 31)) := hW2
  have hs1 : (w.alloc (.cells #[.slice q1 ss.length c1, .slice q2 ps.length c2] 26)).heap.size = w.heap.size + 1 := by simp
  have S2 : W2.heap.size = w.heap.size + 2 := by rw [hW2]; simp
  have R0 : Bxs W2 w.heap.size 26 #[.slice q1 ss.length c1, .slice q2 ps.length c2] := by rw [hW2]; exact (Bxs.new _ _ _).alloc _
  have R1 : Bxs W2 (w.heap.size + 1) 31 #[.slice none 0 0, .slice none 0 0, .string ByteArray.empty, .int .i64 0, .int .i64 0] := by rw [hW2, ← hs1]; exact Bxs.new _ _ _
  have B2 : Hid (Below w.heap.size w W2) := by rw [hW2]; exact ((Below.refl _ _).alloc (Nat.le_refl _) _).alloc (by rw [hs1]; omega) _
  have T1 : Hid (TxtAt W2 q1 ss) := h1.below B2.out
  have T2 : Hid (PndAt W2 q2 ps) := h2.below B2.out
  have HX : Hid (∀ x, Below W2.heap.size W2 x → x.cell? ⟨w.heap.size, 0, none⟩ = some (.slice q1 ss.length c1) ∧ x.cell? ⟨w.heap.size, 1, none⟩ = some (.slice q2 ps.length c2)) := fun x hb => ⟨(R0.below hb).cell 0, (R0.below hb).cell 1⟩
  have HR : Hid (∀ x, Below W2.heap.size W2 x → x.cell? ⟨w.heap.size + 1, 0, none⟩ = some (.slice none 0 0) ∧ x.cell? ⟨w.heap.size + 1, 1, none⟩ = some (.slice none 0 0) ∧ x.cell? ⟨w.heap.size + 1, 2, none⟩ = some (.string ByteArray.empty) ∧ x.cell? ⟨w.heap.size + 1, 3, none⟩ = some (.int .i64 0) ∧ x.cell? ⟨w.heap.size + 1, 4, none⟩ = some (.int .i64 0) ∧ x.frozen? ⟨w.heap.size + 1, 0, none⟩ = false ∧ x.frozen? ⟨w.heap.size + 1, 1, none⟩ = false ∧ x.frozen? ⟨w.heap.size + 1, 2, none⟩ = false ∧ x.frozen? ⟨w.heap.size + 1, 3, none⟩ = false ∧ x.frozen? ⟨w.heap.size + 1, 4, none⟩ = false) := fun x hb => by
    have k := R1.below hb
    exact ⟨k.cell 0, k.cell 1, k.cell 2, k.cell 3, k.cell 4, k.fr 0, k.fr 1, k.fr 2, k.fr 3, k.fr 4⟩
  have HEr : Hid (∀ (y : World) (c : Int) (x0 x1 x2 x3 x4 : Value), Below W2.heap.size W2 y → puC ss ps t k = c ∧ puS ss ps t k = [] ∧ puP ss ps t k = [] → c ≠ 0 → ∃ v1 v2, Ending.returned (.agg #[.slice none 0 0, .slice none 0 0, .string ByteArray.empty, .int .i64 0, .int .i64 c]) = .returned (.agg #[v1, v2, .string ByteArray.empty, .int .i64 0, .int .i64 (puC ss ps t k)]) ∧ DskO w.heap.size (puS ss ps t k) (puP ss ps t k) v1 v2 (((((y.setCell ⟨w.heap.size + 1, 0, none⟩ x0).setCell ⟨w.heap.size + 1, 1, none⟩ x1).setCell ⟨w.heap.size + 1, 2, none⟩ x2).setCell ⟨w.heap.size + 1, 3, none⟩ x3).setCell ⟨w.heap.size + 1, 4, none⟩ x4) ∧ Below w.heap.size w (((((y.setCell ⟨w.heap.size + 1, 0, none⟩ x0).setCell ⟨w.heap.size + 1, 1, none⟩ x1).setCell ⟨w.heap.size + 1, 2, none⟩ x2).setCell ⟨w.heap.size + 1, 3, none⟩ x3).setCell ⟨w.heap.size + 1, 4, none⟩ x4)) := by
    intro y c x0 x1 x2 x3 x4 hb hc hn
    rw [hc.1, hc.2.1, hc.2.2]
    exact ⟨_, _, rfl, DskO.nil _ _, below_set5 (chainB B2.out hb) (by omega) _ _ _ _ _⟩
  have hOk0 : ∀ c, puOk ss ps t = c → c ≠ 0 → puC ss ps t k = c ∧ puS ss ps t k = [] ∧ puP ss ps t k = [] := fun c hc hn => by
    have hn' : ¬ puOk ss ps t = 0 := by rw [hc]; exact hn
    exact ⟨(if_neg hn').trans hc, if_neg hn', if_neg hn'⟩
  have hD := specDiskRight_any q1 c1 ss q2 c2 ps W2 T1.out T2.out n1 n2 m1 m2
  obtain ⟨t0, t1⟩ := HX.out W2 (Below.refl _ _)
  have HSz : Hid (W2.heap.size = w.heap.size + 2) := S2
  rw [HW2.out] at t0 t1
  clear hW2 R0 R1 h1 h2 hs1 S2
  by_cases h8 : 8000 < t.size
  · have hC : Hid (puC ss ps t k = 2 ∧ puS ss ps t k = [] ∧ puP ss ps t k = []) := hOk0 2 (if_pos h8) (by decide)
    have hC0 : Hid ((2 : Int) ≠ 0) := by show _ ≠ _; omega
    have d8 : decide (8000 < (t.size : Int)) = true := decide_eq_true (by omega)
    have BR : Below W2.heap.size W2 W2 := Below.refl _ _
    clear T1 T2 hOk0 hD
    go_enter Tryz.func13, Tryz.ntmps13
    go_wp2_with fail
    rw [← HW2.out]
    refine (l06Ill_any 2 W2).mono ?_
    rintro e yi ⟨rfl, bi⟩
    have bi := chainB BR bi
    have HE : Hid _ := fun x0 x1 x2 x3 x4 => HEr.out yi 2 x0 x1 x2 x3 x4 bi hC.out hC0.out
    obtain ⟨r0, r1, r2, r3, r4, f0, f1, f2, f3, f4⟩ := HR.out yi bi
    clear bi HEr HR HX
    go_wp2_with fail
    refine bodyPost_ret (v := .agg #[.slice none 0 0, .slice none 0 0, .string ByteArray.empty, .int .i64 0, .int .i64 2]) (by simp [results, Tryz.results13, go_sem, r0, r1, r2, r3, r4]) rfl ?_
    exact HE.out _ _ _ _ _
  have d8 : decide (8000 < (t.size : Int)) = false := decide_eq_false (by omega)
  have hOk1 : puOk ss ps t = if arC ss ps = 0 then (if roomN ss < t.size ∨ 1000000 ≤ arG ss ps then 9 else 0) else arC ss ps := if_neg h8
  cases hd : dskB ss ps with
  | false =>
    have ha : arC ss ps = 1 := if_neg (by rw [hd]; exact Bool.false_ne_true)
    have hC : Hid (puC ss ps t k = 1 ∧ puS ss ps t k = [] ∧ puP ss ps t k = []) := hOk0 1 (by rw [hOk1, ha]; rfl) (by decide)
    have hC0 : Hid ((1 : Int) ≠ 0) := by show _ ≠ _; omega
    rw [hd] at hD
    clear hd T1 T2 hOk0 hOk1 ha
    go_enter Tryz.func13, Tryz.ntmps13
    go_wp2_with fail
    rw [← HW2.out]
    refine hD.mono ?_
    rintro e y1 ⟨rfl, b1⟩
    clear t0 t1
    go_wp2_with fail
    refine (l06Ill_any 1 y1).mono ?_
    rintro e yi ⟨rfl, bi⟩
    have bi := chainB b1 bi
    have HE : Hid _ := fun x0 x1 x2 x3 x4 => HEr.out yi 1 x0 x1 x2 x3 x4 bi hC.out hC0.out
    obtain ⟨r0, r1, r2, r3, r4, f0, f1, f2, f3, f4⟩ := HR.out yi bi
    clear bi HEr HR HX
    go_wp2_with fail
    refine bodyPost_ret (v := .agg #[.slice none 0 0, .slice none 0 0, .string ByteArray.empty, .int .i64 0, .int .i64 1]) (by simp [results, Tryz.results13, go_sem, r0, r1, r2, r3, r4]) rfl ?_
    exact HE.out _ _ _ _ _
  | true =>
  rw [hd] at hD
  obtain ⟨⟨p1, p2⟩, p3, -, -⟩ := dskB_parts hd
  have hRd := fun x hb => specAreaRead_any q1 c1 ss q2 c2 ps x (T1.out.below hb) (T2.out.below hb) n1 n2 m1 m2
  have HRd : Hid (∀ x, Below W2.heap.size W2 x → Calls Tryz.prog 12 #[.agg #[.slice q1 ss.length c1, .slice q2 ps.length c2]] x fun e w' => ∃ p1 d1 p2 d2, e = .returned (.agg #[.slice p1 (arS ss ps).length d1, .slice p2 (arP ss ps).length d2, .string (arT ss ps), .int .i64 (arG ss ps : Nat), .int .i64 (arC ss ps)]) ∧ Below x.heap.size x w') := fun x hb => (hRd x hb).mono (by
    rintro e x1 ⟨v1, v2, rfl, ho, hb1⟩
    obtain ⟨p1, d1, rfl, -, -⟩ := ownS_form ho.own1
    obtain ⟨p2, d2, rfl, -, -⟩ := ownP_form ho.own2
    exact ⟨p1, d1, p2, d2, rfl, hb1⟩)
  clear hRd
  by_cases hac : ¬ arC ss ps = 0
  · have hC : Hid (puC ss ps t k = arC ss ps ∧ puS ss ps t k = [] ∧ puP ss ps t k = []) := hOk0 _ (by rw [hOk1, if_neg hac]) hac
    have hC0 : Hid (arC ss ps ≠ 0) := hac
    have hb1 : (arC ss ps == 0) = false := beq_eq_false_iff_ne.2 hac
    clear hd T1 T2 hOk0 hOk1 hac
    generalize arC ss ps = AC at *
    generalize arG ss ps = AG at *
    generalize arT ss ps = AT at *
    generalize arS ss ps = AS at *
    generalize arP ss ps = AP at *
    go_enter Tryz.func13, Tryz.ntmps13
    go_wp2_with fail
    rw [← HW2.out]
    refine hD.mono ?_
    rintro e y1 ⟨rfl, b1⟩
    clear t0 t1
    obtain ⟨t0, t1⟩ := HX.out y1 b1
    go_wp2_with fail
    refine (HRd.out y1 b1).mono ?_
    rintro e y2 ⟨p1, d1, p2, d2, rfl, b2⟩
    have b3 := alB (chainB b1 b2) (.cells #[.slice p1 AS.length d1, .slice p2 AP.length d2, .string AT, .int .i64 (AG : Int), .int .i64 AC] 31)
    clear t0 t1
    go_wp2_with fail
    refine (l06Ill_any AC _).mono ?_
    rintro e yi ⟨rfl, bi⟩
    have bi := chainB b3 bi
    have HE : Hid _ := fun x0 x1 x2 x3 x4 => HEr.out yi AC x0 x1 x2 x3 x4 bi hC.out hC0.out
    obtain ⟨r0, r1, r2, r3, r4, f0, f1, f2, f3, f4⟩ := HR.out yi bi
    clear bi HEr HR HX
    go_wp2_with fail
    refine bodyPost_ret (v := .agg #[.slice none 0 0, .slice none 0 0, .string ByteArray.empty, .int .i64 0, .int .i64 AC]) (by simp [results, Tryz.results13, go_sem, r0, r1, r2, r3, r4]) rfl ?_
    exact HE.out _ _ _ _ _
  have hac : arC ss ps = 0 := Decidable.byContradiction hac
  rw [if_pos hac] at hOk1
  have hSeen := fun x hb => l06Seen_any q1 c1 ss q2 c2 ps x (T1.out.below hb) (T2.out.below hb) hd m1 m2
  have hG := (seC_ok (arC_ok hac).2.1).2.1
  have hsS := (seC_ok (arC_ok hac).2.1).2.2.1
  have hGe : arG ss ps = seG (readB ss ps 0) (roomN ss) := if_pos hac
  have hot : otherN ss ps = 1 - seS (readB ss ps 0) (roomN ss) := rfl
  rw [← hGe] at hG hSeen
  have HL0 : Hid ((puL ss ps t).length = needN t.size + 3) := putL_len _ _ _ _
  have HLa : Hid (∀ j (hj : j < (puL ss ps t).length), (j < needN t.size → (puL ss ps t)[j] = .wr (1 + otherN ss ps * sideN ss.length + j) (pieceB t j)) ∧ (j = needN t.size + 1 → (puL ss ps t)[j] = .wr 0 (headB ((arG ss ps + 1 : Nat) : Int) (otherN ss ps : Int) (t.size : Int))) ∧ (¬ j < needN t.size → j ≠ needN t.size + 1 → (puL ss ps t)[j] = .fl)) := fun j hj => puL_at hj
  have hroom : roomN ss = 64 * sideN ss.length := rfl
  obtain ⟨SD, hSD⟩ : ∃ SD, SD = seS (readB ss ps 0) (roomN ss) := ⟨_, rfl⟩
  obtain ⟨SG, hSG⟩ : ∃ SG, SG = arG ss ps := ⟨_, rfl⟩
  obtain ⟨H, hH⟩ : ∃ H, H = sideN ss.length := ⟨_, rfl⟩
  obtain ⟨L, hLd⟩ : ∃ L, L = puL ss ps t := ⟨_, rfl⟩
  obtain ⟨O, hO⟩ : ∃ O, O = otherN ss ps := ⟨_, rfl⟩
  have hSeen0 : ∀ x, Below W2.heap.size W2 x → ∃ sz sc : Int, Calls Tryz.prog 35 #[.agg #[.slice q1 ss.length c1, .slice q2 ps.length c2]] x fun e w' => e = .returned (.tuple #[.int .i64 (SG : Int), .int .i64 (SD : Int), .int .i64 sz, .int .i64 sc]) ∧ Below x.heap.size x w' := fun x hb => ⟨_, _, by rw [hSG, hSD]; exact hSeen x hb⟩
  have HSeen : Hid (∀ x, Below W2.heap.size W2 x → ∃ sz sc : Int, Calls Tryz.prog 35 #[.agg #[.slice q1 ss.length c1, .slice q2 ps.length c2]] x fun e w' => e = .returned (.tuple #[.int .i64 (SG : Int), .int .i64 (SD : Int), .int .i64 sz, .int .i64 sc]) ∧ Below x.heap.size x w') := hSeen0
  have hHl : H ≤ 32 := by rw [hH]; unfold sideN; omega
  have hHf : ∀ x, Calls Tryz.prog 40 #[.agg #[.slice q1 ss.length c1, .slice q2 ps.length c2]] x fun e w' => e = .returned (.int .i64 (H : Int)) ∧ Below x.heap.size x w' := fun x => by rw [hH]; exact l06Half_any q1 ss.length c1 q2 ps.length c2 x p1 n1
  have HHf : Hid (∀ x, Calls Tryz.prog 40 #[.agg #[.slice q1 ss.length c1, .slice q2 ps.length c2]] x fun e w' => e = .returned (.int .i64 (H : Int)) ∧ Below x.heap.size x w') := hHf
  have hSD1 : SD ≤ 1 := by rw [hSD]; exact hsS
  have hO1 : O = 1 - SD := by rw [hO, hSD]; exact hot
  have hFi : ∀ x, Calls Tryz.prog 37 #[.agg #[.slice q1 ss.length c1, .slice q2 ps.length c2], .int .i64 (O : Int)] x fun e w' => e = .returned (.int .i64 ((1 + O * H : Nat) : Int)) ∧ Below x.heap.size x w' := fun x => by rw [hH]; exact l06First_any q1 ss.length c1 q2 ps.length c2 O x p1 n1 (by omega)
  have HFi : Hid (∀ x, Calls Tryz.prog 37 #[.agg #[.slice q1 ss.length c1, .slice q2 ps.length c2], .int .i64 (O : Int)] x fun e w' => e = .returned (.int .i64 ((1 + O * H : Nat) : Int)) ∧ Below x.heap.size x w') := hFi
  rw [← hLd, ← hO, ← hH, ← hSG] at HLa
  rw [← hLd] at HL0
  rw [← hH] at hroom
  rw [← hSG] at hOk1 hG
  rw [hroom] at hOk1
  have hw64 : IntKind.i64.wrap (64 * (H : Int)) = 64 * (H : Int) := by rw [IntKind.wrap_i64]; omega
  have HVok : Hid (puOk ss ps t = 0 → puC ss ps t k = doC ss ps (L.take k.toNat) ∧ puS ss ps t k = doS ss ps (L.take k.toNat) ∧ puP ss ps t k = doP ss ps (L.take k.toNat)) := fun h => ⟨by rw [hLd]; exact if_pos h, by rw [hLd]; exact if_pos h, by rw [hLd]; exact if_pos h⟩
  have HCp : Hid (∀ x, Below W2.heap.size W2 x → Calls Tryz.prog 39 #[.agg #[.slice q1 ss.length c1, .slice q2 ps.length c2]] x fun e x1 => ∃ p1 d1 p2 d2, e = .returned (.agg #[.slice p1 ss.length d1, .slice p2 ps.length d2]) ∧ DskO x.heap.size ss ps (.slice p1 ss.length d1) (.slice p2 ps.length d2) x1 ∧ Below x.heap.size x x1) := fun x hb => (l05Copy_any q1 c1 ss q2 c2 ps x (T1.out.below hb) (T2.out.below hb) n1 n2 m1 m2).mono (by
    rintro e x1 ⟨v1, v2, rfl, ho, hb1⟩
    obtain ⟨p1, d1, rfl, -, -⟩ := ownS_form ho.own1
    obtain ⟨p2, d2, rfl, -, -⟩ := ownP_form ho.own2
    exact ⟨p1, d1, p2, d2, rfl, ho, hb1⟩)
  have hRdE : ∀ x, Below W2.heap.size W2 x → ∃ (AS : List ByteArray) (AP : List Pnd) (AT : ByteArray), Calls Tryz.prog 12 #[.agg #[.slice q1 ss.length c1, .slice q2 ps.length c2]] x fun e w' => ∃ p1 d1 p2 d2, e = .returned (.agg #[.slice p1 AS.length d1, .slice p2 AP.length d2, .string AT, .int .i64 (SG : Int), .int .i64 0]) ∧ Below x.heap.size x w' := fun x hb => ⟨_, _, _, by rw [hSG, ← hac]; exact HRd.out x hb⟩
  have HRdE : Hid (∀ x, Below W2.heap.size W2 x → ∃ (AS : List ByteArray) (AP : List Pnd) (AT : ByteArray), Calls Tryz.prog 12 #[.agg #[.slice q1 ss.length c1, .slice q2 ps.length c2]] x fun e w' => ∃ p1 d1 p2 d2, e = .returned (.agg #[.slice p1 AS.length d1, .slice p2 AP.length d2, .string AT, .int .i64 (SG : Int), .int .i64 0]) ∧ Below x.heap.size x w') := hRdE
  have HRt : Hid (dskB ss ps = true) := hd
  clear hSeen hSeen0 hHf hFi hRdE HRd hac hGe hot hsS hSD hSG hH hLd hO hroom hd
  by_cases h9 : 64 * H < t.size ∨ 1000000 ≤ SG
  · have hC : Hid (puC ss ps t k = 9 ∧ puS ss ps t k = [] ∧ puP ss ps t k = []) := hOk0 9 (by rw [hOk1, if_pos h9]) (by decide)
    have hC0 : Hid ((9 : Int) ≠ 0) := by show _ ≠ _; omega
    clear T1 T2 hOk0 hOk1
    by_cases h9a : 64 * H < t.size
    · have d9 : decide (64 * (H : Int) < (t.size : Int)) = true := decide_eq_true (by omega)
      clear h9 h9a
      go_enter Tryz.func13, Tryz.ntmps13
      go_wp2_with fail
      rw [← HW2.out]
      refine hD.mono ?_
      rintro e y1 ⟨rfl, b1⟩
      clear t0 t1
      obtain ⟨t0, t1⟩ := HX.out y1 b1
      obtain ⟨AS, AP, AT, hRdx⟩ := HRdE.out y1 b1
      go_wp2_with fail
      refine hRdx.mono ?_
      rintro e y2 ⟨p1, d1, p2, d2, rfl, b2⟩
      obtain ⟨W4, hW4⟩ : ∃ W4, W4 = y2.alloc (.cells #[.slice p1 AS.length d1, .slice p2 AP.length d2, .string AT, .int .i64 (SG : Int), .int .i64 0] 31) := ⟨_, rfl⟩
      have HW4 : Hid (W4 = y2.alloc (.cells #[.slice p1 AS.length d1, .slice p2 AP.length d2, .string AT, .int .i64 (SG : Int), .int .i64 0] 31)) := hW4
      have K4 : Hid (Bxs W4 y2.heap.size 31 #[.slice p1 AS.length d1, .slice p2 AP.length d2, .string AT, .int .i64 (SG : Int), .int .i64 0]) := by rw [hW4]; exact Bxs.new _ _ _
      have HB4 : Hid (Below W2.heap.size W2 W4) := by rw [hW4]; exact alB (chainB b1 b2) _
      obtain ⟨sz, sc, hSx⟩ := HSeen.out W4 HB4.out
      clear t0 t1
      obtain ⟨t0, t1⟩ := HX.out W4 HB4.out
      rw [hW4] at t0 t1
      clear hW4 b1 b2 hRdx
      go_wp2_with fail
      rw [← HW4.out] at t0 t1 ⊢
      refine hSx.mono ?_
      rintro e y4 ⟨rfl, b4⟩
      have HB4' : Hid (Below W4.heap.size W4 y4) := b4
      clear t0 t1 hSx
      obtain ⟨t0, t1⟩ := HX.out y4 (chainB HB4.out b4)
      clear b4
      go_wp2_with fail
      refine (HHf.out y4).mono ?_
      rintro e y5 ⟨rfl, b5⟩
      have HB45 : Hid (Below W4.heap.size W4 y5) := chainB HB4'.out b5
      have HB5 : Hid (Below W2.heap.size W2 y5) := chainB HB4.out HB45.out
      have kg : y5.cell? ⟨y2.heap.size, 3, none⟩ = some (.int .i64 (SG : Int)) := (K4.out.below HB45.out).cell 3
      clear t0 t1 b5
      obtain ⟨t0, t1⟩ := HX.out y5 HB5.out
      go_wp2_with fail
      refine (l06Ill_any 9 y5).mono ?_
      rintro e yi ⟨rfl, bi⟩
      have bi := chainB HB5.out bi
      have HE : Hid _ := fun x0 x1 x2 x3 x4 => HEr.out yi 9 x0 x1 x2 x3 x4 bi hC.out hC0.out
      obtain ⟨r0, r1, r2, r3, r4, f0, f1, f2, f3, f4⟩ := HR.out yi bi
      clear bi HEr HR HX
      go_wp2_with fail
      refine bodyPost_ret (v := .agg #[.slice none 0 0, .slice none 0 0, .string ByteArray.empty, .int .i64 0, .int .i64 9]) (by simp [results, Tryz.results13, go_sem, r0, r1, r2, r3, r4]) rfl ?_
      exact HE.out _ _ _ _ _
    · have d9 : decide (64 * (H : Int) < (t.size : Int)) = false := decide_eq_false (by omega)
      have d9b : decide ((1000000 : Int) ≤ (SG : Int)) = true := decide_eq_true (by omega)
      clear h9 h9a
      go_enter Tryz.func13, Tryz.ntmps13
      go_wp2_with fail
      rw [← HW2.out]
      refine hD.mono ?_
      rintro e y1 ⟨rfl, b1⟩
      clear t0 t1
      obtain ⟨t0, t1⟩ := HX.out y1 b1
      obtain ⟨AS, AP, AT, hRdx⟩ := HRdE.out y1 b1
      go_wp2_with fail
      refine hRdx.mono ?_
      rintro e y2 ⟨p1, d1, p2, d2, rfl, b2⟩
      obtain ⟨W4, hW4⟩ : ∃ W4, W4 = y2.alloc (.cells #[.slice p1 AS.length d1, .slice p2 AP.length d2, .string AT, .int .i64 (SG : Int), .int .i64 0] 31) := ⟨_, rfl⟩
      have HW4 : Hid (W4 = y2.alloc (.cells #[.slice p1 AS.length d1, .slice p2 AP.length d2, .string AT, .int .i64 (SG : Int), .int .i64 0] 31)) := hW4
      have K4 : Hid (Bxs W4 y2.heap.size 31 #[.slice p1 AS.length d1, .slice p2 AP.length d2, .string AT, .int .i64 (SG : Int), .int .i64 0]) := by rw [hW4]; exact Bxs.new _ _ _
      have HB4 : Hid (Below W2.heap.size W2 W4) := by rw [hW4]; exact alB (chainB b1 b2) _
      obtain ⟨sz, sc, hSx⟩ := HSeen.out W4 HB4.out
      clear t0 t1
      obtain ⟨t0, t1⟩ := HX.out W4 HB4.out
      rw [hW4] at t0 t1
      clear hW4 b1 b2 hRdx
      go_wp2_with fail
      rw [← HW4.out] at t0 t1 ⊢
      refine hSx.mono ?_
      rintro e y4 ⟨rfl, b4⟩
      have HB4' : Hid (Below W4.heap.size W4 y4) := b4
      clear t0 t1 hSx
      obtain ⟨t0, t1⟩ := HX.out y4 (chainB HB4.out b4)
      clear b4
      go_wp2_with fail
      refine (HHf.out y4).mono ?_
      rintro e y5 ⟨rfl, b5⟩
      have HB45 : Hid (Below W4.heap.size W4 y5) := chainB HB4'.out b5
      have HB5 : Hid (Below W2.heap.size W2 y5) := chainB HB4.out HB45.out
      have kg : y5.cell? ⟨y2.heap.size, 3, none⟩ = some (.int .i64 (SG : Int)) := (K4.out.below HB45.out).cell 3
      clear t0 t1 b5
      obtain ⟨t0, t1⟩ := HX.out y5 HB5.out
      go_wp2_with fail
      refine (l06Ill_any 9 y5).mono ?_
      rintro e yi ⟨rfl, bi⟩
      have bi := chainB HB5.out bi
      have HE : Hid _ := fun x0 x1 x2 x3 x4 => HEr.out yi 9 x0 x1 x2 x3 x4 bi hC.out hC0.out
      obtain ⟨r0, r1, r2, r3, r4, f0, f1, f2, f3, f4⟩ := HR.out yi bi
      clear bi HEr HR HX
      go_wp2_with fail
      refine bodyPost_ret (v := .agg #[.slice none 0 0, .slice none 0 0, .string ByteArray.empty, .int .i64 0, .int .i64 9]) (by simp [results, Tryz.results13, go_sem, r0, r1, r2, r3, r4]) rfl ?_
      exact HE.out _ _ _ _ _
  have hOkZ : puOk ss ps t = 0 := by rw [hOk1, if_neg h9]
  have d9 : decide (64 * (H : Int) < (t.size : Int)) = false := decide_eq_false (by omega)
  have d9b : decide ((1000000 : Int) ≤ (SG : Int)) = false := decide_eq_false (by omega)
  obtain ⟨V1, V2, V3⟩ := HVok.out hOkZ
  have HV : Hid (puC ss ps t k = doC ss ps (L.take k.toNat) ∧ puS ss ps t k = doS ss ps (L.take k.toNat) ∧ puP ss ps t k = doP ss ps (L.take k.toNat)) := ⟨V1, V2, V3⟩
  have hSG1 : SG < 1000000 := by omega
  have htz : t.size ≤ 64 * H := by omega
  obtain ⟨n, hn⟩ : ∃ n, n = needN t.size := ⟨_, rfl⟩
  have hn32 : n ≤ 32 := by rw [hn]; unfold needN; omega
  have hwq1 : IntKind.i64.wrap ((t.size : Int) + 64) = (t.size : Int) + 64 := by rw [IntKind.wrap_i64]; omega
  have hwq2 : IntKind.i64.wrap ((t.size : Int) + 64 - 1) = (t.size : Int) + 64 - 1 := by rw [IntKind.wrap_i64]; omega
  have hq : ((t.size : Int) + 64 - 1).tdiv 64 = (n : Int) := by
    rw [Int.tdiv_eq_ediv_of_nonneg (by omega), hn]; unfold needN; omega
  have hwn : IntKind.i64.wrap (n : Int) = (n : Int) := by rw [IntKind.wrap_i64]; omega
  have hwn1 : IntKind.i64.wrap ((n : Int) + 1) = (n : Int) + 1 := by rw [IntKind.wrap_i64]; omega
  have hwn3 : IntKind.i64.wrap ((n : Int) + 3) = (n : Int) + 3 := by rw [IntKind.wrap_i64]; omega
  have hwO : IntKind.i64.wrap (1 - (SD : Int)) = (O : Int) := by rw [IntKind.wrap_i64]; omega
  have hwG : IntKind.i64.wrap ((SG : Int) + 1) = (SG : Int) + 1 := by rw [IntKind.wrap_i64]; omega
  rw [← hn] at HLa HL0
  have HPc : Hid (∀ j, j < n → ∀ x, (Instr.slice 9 (.string t) (some (.int .i64 ((j : Int) * 64))) (some (.int .i64 ((min t.size (64 * (j + 1)) : Nat) : Int))) none).run Tryz.prog x = .ok (.string (pieceB t j)) x) := fun j hj x => piece_run t j (by rw [← hn]; exact hj) x
  have HF33 : Hid (1 + O * H ≤ 33) := by
    have : O * H ≤ H := by rcases Nat.le_one_iff_eq_zero_or_eq_one.1 (show O ≤ 1 by omega) with e | e <;> rw [e] <;> omega
    show 1 + O * H ≤ 33
    omega
  have HNn : Hid (n = needN t.size) := hn
  have HO1 : Hid (O ≤ 1) := by show O ≤ 1; omega
  clear hOk0 hOk1 h9 hOkZ V1 V2 V3 HVok hn hO1
  go_enter Tryz.func13, Tryz.ntmps13
  go_wp2_with fail
  rw [← HW2.out]
  refine hD.mono ?_
  rintro e y1 ⟨rfl, b1⟩
  clear t0 t1
  obtain ⟨t0, t1⟩ := HX.out y1 b1
  obtain ⟨AS, AP, AT, hRdx⟩ := HRdE.out y1 b1
  go_wp2_with fail
  refine hRdx.mono ?_
  rintro e y2 ⟨p1, d1, p2, d2, rfl, b2⟩
  obtain ⟨W4, hW4⟩ : ∃ W4, W4 = y2.alloc (.cells #[.slice p1 AS.length d1, .slice p2 AP.length d2, .string AT, .int .i64 (SG : Int), .int .i64 0] 31) := ⟨_, rfl⟩
  have HW4 : Hid (W4 = y2.alloc (.cells #[.slice p1 AS.length d1, .slice p2 AP.length d2, .string AT, .int .i64 (SG : Int), .int .i64 0] 31)) := hW4
  have K4 : Hid (Bxs W4 y2.heap.size 31 #[.slice p1 AS.length d1, .slice p2 AP.length d2, .string AT, .int .i64 (SG : Int), .int .i64 0]) := by rw [hW4]; exact Bxs.new _ _ _
  have HB4 : Hid (Below W2.heap.size W2 W4) := by rw [hW4]; exact alB (chainB b1 b2) _
  obtain ⟨sz, sc, hSx⟩ := HSeen.out W4 HB4.out
  clear t0 t1
  obtain ⟨t0, t1⟩ := HX.out W4 HB4.out
  rw [hW4] at t0 t1
  clear hW4 b1 b2 hRdx
  go_wp2_with fail
  rw [← HW4.out] at t0 t1 ⊢
  refine hSx.mono ?_
  rintro e y4 ⟨rfl, b4⟩
  have HB4' : Hid (Below W4.heap.size W4 y4) := b4
  clear t0 t1 hSx
  obtain ⟨t0, t1⟩ := HX.out y4 (chainB HB4.out b4)
  clear b4
  go_wp2_with fail
  refine (HHf.out y4).mono ?_
  rintro e y5 ⟨rfl, b5⟩
  have HB45 : Hid (Below W4.heap.size W4 y5) := chainB HB4'.out b5
  have HB5 : Hid (Below W2.heap.size W2 y5) := chainB HB4.out HB45.out
  have kg : y5.cell? ⟨y2.heap.size, 3, none⟩ = some (.int .i64 (SG : Int)) := (K4.out.below HB45.out).cell 3
  clear t0 t1 b5
  obtain ⟨t0, t1⟩ := HX.out y5 HB5.out
  go_wp2_with fail
  refine (HCp.out _ HB5.out).mono ?_
  rintro e y6 ⟨p1', d1', p2', d2', rfl, ho, b6⟩
  obtain ⟨W7, hW7⟩ : ∃ W7, W7 = y6.alloc (.cells #[.slice p1' ss.length d1', .slice p2' ps.length d2'] 26) := ⟨_, rfl⟩
  have HW7 : Hid (W7 = y6.alloc (.cells #[.slice p1' ss.length d1', .slice p2' ps.length d2'] 26)) := hW7
  have F0 : Hid (StD W4 y6.heap.size ss ps (.slice p1' ss.length d1') (.slice p2' ps.length d2') W7) := by
    rw [hW7]
    exact ⟨alB (chainB HB45.out b6) _, Bxs.new _ _ _, (ho.mono HB45.out.size).below ((Below.refl _ _).alloc (Nat.le_refl _) _), Nat.le_trans HB45.out.size b6.size⟩
  clear t0 t1 ho b6 hW7
  go_wp2_with fail
  rw [← HW7.out]
  have HXX : Hid (∀ x, Below W4.heap.size W4 x → x.cell? ⟨w.heap.size, 0, none⟩ = some (.slice q1 ss.length c1) ∧ x.cell? ⟨w.heap.size, 1, none⟩ = some (.slice q2 ps.length c2) ∧ x.cell? ⟨y2.heap.size, 3, none⟩ = some (.int .i64 (SG : Int))) := fun x hb => ⟨(HX.out x (chainB HB4.out hb)).1, (HX.out x (chainB HB4.out hb)).2, (K4.out.below hb).cell 3⟩
  have HR4 : Hid (∀ x, Below W4.heap.size W4 x → x.cell? ⟨w.heap.size + 1, 0, none⟩ = some (.slice none 0 0) ∧ x.cell? ⟨w.heap.size + 1, 1, none⟩ = some (.slice none 0 0) ∧ x.cell? ⟨w.heap.size + 1, 2, none⟩ = some (.string ByteArray.empty) ∧ x.cell? ⟨w.heap.size + 1, 3, none⟩ = some (.int .i64 0) ∧ x.cell? ⟨w.heap.size + 1, 4, none⟩ = some (.int .i64 0) ∧ x.frozen? ⟨w.heap.size + 1, 0, none⟩ = false ∧ x.frozen? ⟨w.heap.size + 1, 1, none⟩ = false ∧ x.frozen? ⟨w.heap.size + 1, 2, none⟩ = false ∧ x.frozen? ⟨w.heap.size + 1, 3, none⟩ = false ∧ x.frozen? ⟨w.heap.size + 1, 4, none⟩ = false) := fun x hb => HR.out x (chainB HB4.out hb)
  have HWs : Hid (w.heap.size + 2 ≤ W4.heap.size ∧ y2.heap.size < W4.heap.size) := ⟨by have := HSz.out; have := HB4.out.size; omega, K4.out.lt⟩
  clear kg HX HR HHf HSeen HRdE HCp HB4' HB45 HB5 K4 T1 T2 hD
  generalize y2.heap.size = A at *
  generalize hX6 : y6.heap.size = X at *
  clear hX6
  go_loopw [15] (fun i wr => ∃ (j : Nat) (S : List ByteArray) (P : List Pnd) (v1 v2 : Value), j ≤ n + 3 ∧ i = .int .i64 j ∧ Hid ((j : Int) ≤ max k 0) ∧ Hid (doC ss ps (L.take j) = 0 ∧ S = doS ss ps (L.take j) ∧ P = doP ss ps (L.take j) ∧ dskB S P = true) ∧ Hid (StD W4 X S P v1 v2 wr)) (fun i _ => n + 3 - (intOf i).toNat)
  case atStart => exact ⟨0, ss, ps, _, _, by omega, rfl, (by show ((0 : Nat) : Int) ≤ max k 0; omega), ⟨rfl, rfl, rfl, HRt.out⟩, F0⟩
  case round =>
    clear F0
    obtain ⟨j, S, P, v1, v2, hj, rfl, HJk, HK, HF⟩ := hrel
    obtain ⟨hk0, hkS, hkP, hkr⟩ := HK.out
    obtain ⟨e1, d1, rfl, j1, u1⟩ := ownS_form HF.out.own.own1
    obtain ⟨e2, d2, rfl, j2, u2⟩ := ownP_form HF.out.own.own2
    obtain ⟨⟨g1, g2⟩, g3, -, -⟩ := dskB_parts hkr
    have hjk := HJk.out
    by_cases hlt : j < n + 3 ∧ (j : Int) < k
    · have hjL : j < L.length := by have := HL0.out; omega
      have hsn := do_snoc hjL hk0
      rw [← hkS, ← hkP] at hsn
      have htr : stpC S P L[j] = 0 → dskB (stpS S P L[j]) (stpP S P L[j]) = true := fun h => stp_right hkr h
      obtain ⟨la, lb, lc⟩ := HLa.out j hjL
      have HJk2 : Hid (((j + 1 : Nat) : Int) ≤ max k 0) := by show ((j + 1 : Nat) : Int) ≤ max k 0; omega
      have dA : decide ((j : Int) < (n : Int) + 3) = true := decide_eq_true (by omega)
      have dB : decide ((j : Int) < k) = true := decide_eq_true hlt.2
      have hj64 : j < 64 := by omega
      have hlt3 := hlt.1
      obtain ⟨W8, hW8⟩ : ∃ W8, W8 = wr.alloc (.cells #[.slice none 0 0, .slice none 0 0, .string ⟨#[]⟩, .int .i64 0] 66) := ⟨_, rfl⟩
      have HW8 : Hid (W8 = wr.alloc (.cells #[.slice none 0 0, .slice none 0 0, .string ⟨#[]⟩, .int .i64 0] 66)) := hW8
      have T0 : Hid (PuR W4 X wr.heap.size S P (.slice e1 S.length d1) (.slice e2 P.length d2) W8) := by
        rw [hW8]; exact ⟨HF.out.below ((Below.refl _ _).alloc (Nat.le_refl _) _), Bxs.new _ _ _, HF.out.box.lt⟩
      have HU1 : Hid (∀ x, PuR W4 X wr.heap.size S P (.slice e1 S.length d1) (.slice e2 P.length d2) x → TxtAt x e1 S ∧ PndAt x e2 P) := fun x h => by
        have h1 := h.st.own
        obtain ⟨a1, b1, q1', -, s1⟩ := ownS_form h1.own1
        obtain ⟨a2, b2, q2', -, s2⟩ := ownP_form h1.own2
        cases q1'; cases q2'
        exact ⟨s1, s2⟩
      clear hW8 hk0 hkS hkP hkr HK HJk u1 u2 HF
      generalize hYd : wr.heap.size = Y at *
      by_cases hA : j < n
      · have dC : decide ((j : Int) < (n : Int)) = true := decide_eq_true (by omega)
        have dC' : decide (j < n) = true := decide_eq_true hA
        have hLj := (la hA)
        rw [hLj] at hsn htr
        obtain ⟨C, hCd⟩ : ∃ C, C = stpC S P (.wr (1 + O * H + j) (pieceB t j)) := ⟨_, rfl⟩
        obtain ⟨RS, hRSd⟩ : ∃ RS, RS = stpS S P (.wr (1 + O * H + j) (pieceB t j)) := ⟨_, rfl⟩
        obtain ⟨RP, hRPd⟩ : ∃ RP, RP = stpP S P (.wr (1 + O * H + j) (pieceB t j)) := ⟨_, rfl⟩
        have HN : Hid (C = 0 → doC ss ps (L.take (j + 1)) = 0 ∧ RS = doS ss ps (L.take (j + 1)) ∧ RP = doP ss ps (L.take (j + 1)) ∧ dskB RS RP = true) := fun h => by
          rw [hCd] at h
          rw [hRSd, hRPd]
          exact ⟨by rw [hsn.1]; exact h, (hsn.2 h).1.symm, (hsn.2 h).2.symm, htr h⟩
        have HB : Hid (C ≠ 0 → puC ss ps t k = C ∧ puS ss ps t k = [] ∧ puP ss ps t k = []) := fun h => by
          have e1 := do_early (l := L) (ss := ss) (ps := ps) (k := j + 1) (m := k.toNat) (by omega) (by rw [hsn.1, ← hCd]; exact h)
          rw [hsn.1, ← hCd] at e1
          have e2 := do_ill _ ss ps (by rw [e1]; exact h)
          rw [HV.out.1, HV.out.2.1, HV.out.2.2]
          exact ⟨e1, e2.1, e2.2⟩
        have hpz : (pieceB t j).size ≤ 1048576 := by unfold pieceB; simp; omega
        have QW : Hid (∀ x, PuR W4 X Y S P (.slice e1 S.length d1) (.slice e2 P.length d2) x → Calls Tryz.prog 41 #[.agg #[.slice e1 S.length d1, .slice e2 P.length d2], .int .i64 (((1 + O * H : Nat) : Int) + (j : Int)), .string (pieceB t j)] x fun e x1 => ∃ p1 d1' p2 d2', e = .returned (.agg #[.slice p1 RS.length d1', .slice p2 RP.length d2', .string ByteArray.empty, .int .i64 C]) ∧ DskO x.heap.size RS RP (.slice p1 RS.length d1') (.slice p2 RP.length d2') x1 ∧ Y < x.heap.size ∧ PuR W4 X Y S P (.slice e1 S.length d1) (.slice e2 P.length d2) x1) := fun x h => by
          have h0 := specDiskWrite_any e1 d1 S e2 d2 P ((1 + O * H + j : Nat) : Int) (pieceB t j) x (HU1.out x h).1 (HU1.out x h).2 (by omega) (by omega) j1 j2 hpz
          rw [show (((1 + O * H : Nat) : Int) + (j : Int)) = ((1 + O * H + j : Nat) : Int) by omega]
          rw [show wrC S P ((1 + O * H + j : Nat) : Int) (pieceB t j) = C from hCd.symm, show wrS S P ((1 + O * H + j : Nat) : Int) (pieceB t j) = RS from hRSd.symm, show wrP S P ((1 + O * H + j : Nat) : Int) (pieceB t j) = RP from hRPd.symm] at h0
          refine h0.mono ?_
          rintro e x1 ⟨v1, v2, rfl, ho, hb⟩
          obtain ⟨p1, d1', rfl, -, -⟩ := ownS_form ho.own1
          obtain ⟨p2, d2', rfl, -, -⟩ := ownP_form ho.own2
          exact ⟨p1, d1', p2, d2', rfl, ho, h.y.lt, h.below hb⟩
        have QF : Hid (∀ x, PuR W4 X Y S P (.slice e1 S.length d1) (.slice e2 P.length d2) x → Calls Tryz.prog 37 #[.agg #[.slice q1 ss.length c1, .slice q2 ps.length c2], .int .i64 (O : Int)] x fun e x1 => e = .returned (.int .i64 ((1 + O * H : Nat) : Int)) ∧ PuR W4 X Y S P (.slice e1 S.length d1) (.slice e2 P.length d2) x1) := fun x h => (HFi.out x).mono (by rintro e x1 ⟨rfl, b⟩; exact ⟨rfl, h.below b⟩)
        have hmin : (if (t.size : Int) < ((j : Int) + 1) * 64 then (t.size : Int) else ((j : Int) + 1) * 64) = ((min t.size (64 * (j + 1)) : Nat) : Int) := by split <;> omega
        have QM : Hid (∀ x, PuR W4 X Y S P (.slice e1 S.length d1) (.slice e2 P.length d2) x → Calls Tryz.prog 38 #[.int .i64 (t.size : Int), .int .i64 (((j : Int) + 1) * 64)] x fun e x1 => e = .returned (.int .i64 ((min t.size (64 * (j + 1)) : Nat) : Int)) ∧ PuR W4 X Y S P (.slice e1 S.length d1) (.slice e2 P.length d2) x1) := fun x h => by
          have h0 := l01Min_any (t.size : Int) (((j : Int) + 1) * 64) x
          rw [hmin] at h0
          exact h0.mono (by rintro e x1 ⟨rfl, rfl⟩; exact ⟨rfl, h⟩)
        have hpr := HPc.out j hA
        have hw5 : IntKind.i64.wrap ((j : Int) * 64) = (j : Int) * 64 := by rw [IntKind.wrap_i64]; omega
        have hw6 : IntKind.i64.wrap ((j : Int) + 1) = (j : Int) + 1 := by rw [IntKind.wrap_i64]; omega
        have hw7 : IntKind.i64.wrap (((j : Int) + 1) * 64) = ((j : Int) + 1) * 64 := by rw [IntKind.wrap_i64]; omega
        have hw8 : IntKind.i64.wrap (((1 + O * H : Nat) : Int) + (j : Int)) = ((1 + O * H : Nat) : Int) + (j : Int) := by have := HF33.out; rw [IntKind.wrap_i64]; omega
        obtain ⟨F, hFd⟩ : ∃ F, F = 1 + O * H := ⟨_, rfl⟩
        obtain ⟨M, hMd⟩ : ∃ M, M = min t.size (64 * (j + 1)) := ⟨_, rfl⟩
        obtain ⟨PB, hPBd⟩ : ∃ PB, PB = pieceB t j := ⟨_, rfl⟩
        rw [← hFd] at QF QW hw8
        rw [← hMd] at QM hpr
        rw [← hPBd] at QW hpr
        have hXX : ∀ x, PuR W4 X Y S P (.slice e1 S.length d1) (.slice e2 P.length d2) x → x.cell? ⟨w.heap.size, 0, none⟩ = some (.slice q1 ss.length c1) ∧ x.cell? ⟨w.heap.size, 1, none⟩ = some (.slice q2 ps.length c2) ∧ x.cell? ⟨A, 3, none⟩ = some (.int .i64 (SG : Int)) ∧ x.cell? ⟨X, 0, none⟩ = some (.slice e1 S.length d1) ∧ x.cell? ⟨X, 1, none⟩ = some (.slice e2 P.length d2) := fun x h => by
          obtain ⟨a, b, c⟩ := HXX.out x h.st.bel
          exact ⟨a, b, c, h.st.box.cell 0, h.st.box.cell 1⟩
        have HX2 : Hid (∀ x, PuR W4 X Y S P (.slice e1 S.length d1) (.slice e2 P.length d2) x → x.cell? ⟨w.heap.size, 0, none⟩ = some (.slice q1 ss.length c1) ∧ x.cell? ⟨w.heap.size, 1, none⟩ = some (.slice q2 ps.length c2) ∧ x.cell? ⟨A, 3, none⟩ = some (.int .i64 (SG : Int)) ∧ x.cell? ⟨X, 0, none⟩ = some (.slice e1 S.length d1) ∧ x.cell? ⟨X, 1, none⟩ = some (.slice e2 P.length d2)) := hXX
        have HX4 : Hid (∀ x (u0 u1 u2 u3 : Value), PuR W4 X Y S P (.slice e1 S.length d1) (.slice e2 P.length d2) x → ((((x.setCell ⟨Y, 0, none⟩ u0).setCell ⟨Y, 1, none⟩ u1).setCell ⟨Y, 2, none⟩ u2).setCell ⟨Y, 3, none⟩ u3).cell? ⟨w.heap.size, 0, none⟩ = some (.slice q1 ss.length c1) ∧ ((((x.setCell ⟨Y, 0, none⟩ u0).setCell ⟨Y, 1, none⟩ u1).setCell ⟨Y, 2, none⟩ u2).setCell ⟨Y, 3, none⟩ u3).cell? ⟨w.heap.size, 1, none⟩ = some (.slice q2 ps.length c2) ∧ ((((x.setCell ⟨Y, 0, none⟩ u0).setCell ⟨Y, 1, none⟩ u1).setCell ⟨Y, 2, none⟩ u2).setCell ⟨Y, 3, none⟩ u3).cell? ⟨A, 3, none⟩ = some (.int .i64 (SG : Int)) ∧ ((((x.setCell ⟨Y, 0, none⟩ u0).setCell ⟨Y, 1, none⟩ u1).setCell ⟨Y, 2, none⟩ u2).setCell ⟨Y, 3, none⟩ u3).cell? ⟨X, 0, none⟩ = some (.slice e1 S.length d1) ∧ ((((x.setCell ⟨Y, 0, none⟩ u0).setCell ⟨Y, 1, none⟩ u1).setCell ⟨Y, 2, none⟩ u2).setCell ⟨Y, 3, none⟩ u3).cell? ⟨X, 1, none⟩ = some (.slice e2 P.length d2)) := fun x u0 u1 u2 u3 h => by
          obtain ⟨a, b, c, d, f⟩ := hXX x h
          have q1 : w.heap.size ≠ Y := by have := h.lt; have := h.st.lo; have := HWs.out.1; omega
          have q2 : A ≠ Y := by have := h.lt; have := h.st.lo; have := HWs.out.2; omega
          have q3 : X ≠ Y := by have := h.lt; omega
          refine ⟨?_, ?_, ?_, ?_, ?_⟩
          · simpa [World.cell?, World.setCell, Array.getElem?_modify, Ne.symm q1] using a
          · simpa [World.cell?, World.setCell, Array.getElem?_modify, Ne.symm q1] using b
          · simpa [World.cell?, World.setCell, Array.getElem?_modify, Ne.symm q2] using c
          · simpa [World.cell?, World.setCell, Array.getElem?_modify, Ne.symm q3] using d
          · simpa [World.cell?, World.setCell, Array.getElem?_modify, Ne.symm q3] using f
        clear hFd hMd hPBd hmin hpz hCd hRSd hRPd hsn htr la lb lc hLj hXX hlt HFi hjk
        go_upto_region 20 with fail
        rw [← HW8.out]
        go_region_held3 (fun w' => w'.cell? ⟨w.heap.size, 0, none⟩ = some (.slice q1 ss.length c1) ∧ w'.cell? ⟨w.heap.size, 1, none⟩ = some (.slice q2 ps.length c2) ∧ w'.cell? ⟨A, 3, none⟩ = some (.int .i64 (SG : Int)) ∧ w'.cell? ⟨X, 0, none⟩ = some (.slice e1 S.length d1) ∧ w'.cell? ⟨X, 1, none⟩ = some (.slice e2 P.length d2)) ((first | with_reducible exact HX4.out _ _ _ _ _ tW | (refine HX2.out _ ?hT; (case hT => (with_reducible repeat (first | assumption | exact T0.out | refine PuR.drew ?_)))))) (first
          | (go_at_call 37; with_reducible refine (QF.out _ ?hT).mono ?_; (case hT => (with_reducible repeat (first | assumption | exact T0.out | refine PuR.drew ?_))); rintro e x1 ⟨rfl, tF⟩)
          | (go_at_call 38; with_reducible refine (QM.out _ ?hT).mono ?_; (case hT => (with_reducible repeat (first | assumption | exact T0.out | refine PuR.drew ?_))); rintro e x2 ⟨rfl, tM⟩)
          | (go_at_call 41; with_reducible refine (QW.out _ ?hT).mono ?_; (case hT => (with_reducible repeat (first | assumption | exact T0.out | refine PuR.drew ?_))); rintro e xw ⟨p1, d1', p2, d2', rfl, ho, hlt9, tW⟩; obtain ⟨z0, z1, z2, z3, z4, z5, z6, z7⟩ := tW.outs))
        have hcut : Hid (PuE W4 X Y RS RP C ((((xw.setCell ⟨Y, 0, none⟩ (.slice p1 RS.length d1')).setCell ⟨Y, 1, none⟩ (.slice p2 RP.length d2')).setCell ⟨Y, 2, none⟩ (.string ByteArray.empty)).setCell ⟨Y, 3, none⟩ (.int .i64 C))) := PuE.of tW ho hlt9
        generalize ((((xw.setCell ⟨Y, 0, none⟩ (.slice p1 RS.length d1')).setCell ⟨Y, 1, none⟩ (.slice p2 RP.length d2')).setCell ⟨Y, 2, none⟩ (.string ByteArray.empty)).setCell ⟨Y, 3, none⟩ (.int .i64 C)) = wc at hcut ⊢
        clear ho hlt9 tW
        clear z0 z1 z2 z3 z4 z5 z6 z7
        obtain ⟨w1, w2, p1, d1', p2, d2', base, hst, hy, ho, hbs⟩ := hcut.out
        have HPut : Hid (StD W4 X RS RP (.slice p1 RS.length d1') (.slice p2 RP.length d2') ((wc.setCell ⟨X, 0, none⟩ (.slice p1 RS.length d1')).setCell ⟨X, 1, none⟩ (.slice p2 RP.length d2'))) := hst.put ho hbs
        have z0 := hy.cell 0
        have z1 := hy.cell 1
        have z3 := hy.cell 3
        have o0 := hst.box.cell 0
        have o1 := hst.box.cell 1
        have o2 := hst.box.fr 0
        have o3 := hst.box.fr 1
        have HBc : Hid (Below W4.heap.size W4 wc) := hst.bel
        clear hst hy ho hcut
        by_cases hc0 : C = 0
        · have HK2 : Hid (doC ss ps (L.take (j + 1)) = 0 ∧ RS = doS ss ps (L.take (j + 1)) ∧ RP = doP ss ps (L.take (j + 1)) ∧ dskB RS RP = true) := HN.out hc0
          subst hc0
          clear HN HB
          go_wp2_with fail
          go_roundw
          case rel => exact ⟨j + 1, RS, RP, _, _, by omega, by go_num, HJk2, HK2, HPut⟩
          case measure => simp [intOf]; omega
        · have hc1 : (C == 0) = false := beq_eq_false_iff_ne.2 hc0
          have hC : Hid (puC ss ps t k = C ∧ puS ss ps t k = [] ∧ puP ss ps t k = []) := HB.out hc0
          have hC0 : Hid (C ≠ 0) := hc0
          clear HN HB hc0 HPut o0 o1 o2 o3
          go_wp2_with fail
          refine (l06Ill_any C wc).mono ?_
          rintro e yi ⟨rfl, bi⟩
          have bi := chainB HBc.out bi
          have HE : Hid _ := fun x0 x1 x2 x3 x4 => HEr.out yi C x0 x1 x2 x3 x4 (chainB HB4.out bi) hC.out hC0.out
          obtain ⟨r0, r1, r2, r3, r4, f0, f1, f2, f3, f4⟩ := HR4.out yi bi
          clear bi HEr HR4 HXX HBc z0 z1 z3
          go_wp2_with fail
          refine bodyPost_ret (v := .agg #[.slice none 0 0, .slice none 0 0, .string ByteArray.empty, .int .i64 0, .int .i64 C]) (by simp [results, Tryz.results13, go_sem, r0, r1, r2, r3, r4]) rfl ?_
          exact HE.out _ _ _ _ _
      have dC : decide ((j : Int) < (n : Int)) = false := decide_eq_false (by omega)
      have dC' : decide (j < n) = false := decide_eq_false hA
      by_cases hB : j = n + 1
      · have dD : ((j : Int) == (n : Int) + 1) = true := by rw [beq_iff_eq]; omega
        have hLj := (lb hB)
        rw [hLj] at hsn htr
        obtain ⟨C, hCd⟩ : ∃ C, C = stpC S P (.wr 0 (headB ((SG + 1 : Nat) : Int) (O : Int) (t.size : Int))) := ⟨_, rfl⟩
        obtain ⟨RS, hRSd⟩ : ∃ RS, RS = stpS S P (.wr 0 (headB ((SG + 1 : Nat) : Int) (O : Int) (t.size : Int))) := ⟨_, rfl⟩
        obtain ⟨RP, hRPd⟩ : ∃ RP, RP = stpP S P (.wr 0 (headB ((SG + 1 : Nat) : Int) (O : Int) (t.size : Int))) := ⟨_, rfl⟩
        have HN : Hid (C = 0 → doC ss ps (L.take (j + 1)) = 0 ∧ RS = doS ss ps (L.take (j + 1)) ∧ RP = doP ss ps (L.take (j + 1)) ∧ dskB RS RP = true) := fun h => by
          rw [hCd] at h
          rw [hRSd, hRPd]
          exact ⟨by rw [hsn.1]; exact h, (hsn.2 h).1.symm, (hsn.2 h).2.symm, htr h⟩
        have HB : Hid (C ≠ 0 → puC ss ps t k = C ∧ puS ss ps t k = [] ∧ puP ss ps t k = []) := fun h => by
          have e1 := do_early (l := L) (ss := ss) (ps := ps) (k := j + 1) (m := k.toNat) (by omega) (by rw [hsn.1, ← hCd]; exact h)
          rw [hsn.1, ← hCd] at e1
          have e2 := do_ill _ ss ps (by rw [e1]; exact h)
          rw [HV.out.1, HV.out.2.1, HV.out.2.2]
          exact ⟨e1, e2.1, e2.2⟩
        have hhz := headB_small ((SG + 1 : Nat) : Int) (O : Int) (t.size : Int)
        have QW : Hid (∀ x, PuR W4 X Y S P (.slice e1 S.length d1) (.slice e2 P.length d2) x → Calls Tryz.prog 41 #[.agg #[.slice e1 S.length d1, .slice e2 P.length d2], .int .i64 0, .string (headB ((SG + 1 : Nat) : Int) (O : Int) (t.size : Int))] x fun e x1 => ∃ p1 d1' p2 d2', e = .returned (.agg #[.slice p1 RS.length d1', .slice p2 RP.length d2', .string ByteArray.empty, .int .i64 C]) ∧ DskO x.heap.size RS RP (.slice p1 RS.length d1') (.slice p2 RP.length d2') x1 ∧ Y < x.heap.size ∧ PuR W4 X Y S P (.slice e1 S.length d1) (.slice e2 P.length d2) x1) := fun x h => by
          have h0 := specDiskWrite_any e1 d1 S e2 d2 P 0 (headB ((SG + 1 : Nat) : Int) (O : Int) (t.size : Int)) x (HU1.out x h).1 (HU1.out x h).2 (by omega) (by omega) j1 j2 (by omega)
          rw [show wrC S P 0 (headB ((SG + 1 : Nat) : Int) (O : Int) (t.size : Int)) = C from hCd.symm, show wrS S P 0 (headB ((SG + 1 : Nat) : Int) (O : Int) (t.size : Int)) = RS from hRSd.symm, show wrP S P 0 (headB ((SG + 1 : Nat) : Int) (O : Int) (t.size : Int)) = RP from hRPd.symm] at h0
          refine h0.mono ?_
          rintro e x1 ⟨v1, v2, rfl, ho, hb⟩
          obtain ⟨p1, d1', rfl, -, -⟩ := ownS_form ho.own1
          obtain ⟨p2, d2', rfl, -, -⟩ := ownP_form ho.own2
          exact ⟨p1, d1', p2, d2', rfl, ho, h.y.lt, h.below hb⟩
        have QH : Hid (∀ x, PuR W4 X Y S P (.slice e1 S.length d1) (.slice e2 P.length d2) x → Calls Tryz.prog 42 #[.int .i64 ((SG : Int) + 1), .int .i64 (O : Int), .int .i64 (t.size : Int)] x fun e x1 => e = .returned (.string (headB ((SG + 1 : Nat) : Int) (O : Int) (t.size : Int))) ∧ PuR W4 X Y S P (.slice e1 S.length d1) (.slice e2 P.length d2) x1) := fun x h => by
          have hO9 := HO1.out
          rw [show (SG : Int) + 1 = ((SG + 1 : Nat) : Int) by omega]
          exact (l06Head_any _ _ _ x (by omega) (by omega) (by omega) (by omega) (by omega) (by omega)).mono (by rintro e x1 ⟨rfl, b⟩; exact ⟨rfl, h.below b⟩)
        obtain ⟨HT, hHTd⟩ : ∃ HT, HT = headB ((SG + 1 : Nat) : Int) (O : Int) (t.size : Int) := ⟨_, rfl⟩
        rw [← hHTd] at QH QW
        have hXX : ∀ x, PuR W4 X Y S P (.slice e1 S.length d1) (.slice e2 P.length d2) x → x.cell? ⟨w.heap.size, 0, none⟩ = some (.slice q1 ss.length c1) ∧ x.cell? ⟨w.heap.size, 1, none⟩ = some (.slice q2 ps.length c2) ∧ x.cell? ⟨A, 3, none⟩ = some (.int .i64 (SG : Int)) ∧ x.cell? ⟨X, 0, none⟩ = some (.slice e1 S.length d1) ∧ x.cell? ⟨X, 1, none⟩ = some (.slice e2 P.length d2) := fun x h => by
          obtain ⟨a, b, c⟩ := HXX.out x h.st.bel
          exact ⟨a, b, c, h.st.box.cell 0, h.st.box.cell 1⟩
        have HX2 : Hid (∀ x, PuR W4 X Y S P (.slice e1 S.length d1) (.slice e2 P.length d2) x → x.cell? ⟨w.heap.size, 0, none⟩ = some (.slice q1 ss.length c1) ∧ x.cell? ⟨w.heap.size, 1, none⟩ = some (.slice q2 ps.length c2) ∧ x.cell? ⟨A, 3, none⟩ = some (.int .i64 (SG : Int)) ∧ x.cell? ⟨X, 0, none⟩ = some (.slice e1 S.length d1) ∧ x.cell? ⟨X, 1, none⟩ = some (.slice e2 P.length d2)) := hXX
        have HX4 : Hid (∀ x (u0 u1 u2 u3 : Value), PuR W4 X Y S P (.slice e1 S.length d1) (.slice e2 P.length d2) x → ((((x.setCell ⟨Y, 0, none⟩ u0).setCell ⟨Y, 1, none⟩ u1).setCell ⟨Y, 2, none⟩ u2).setCell ⟨Y, 3, none⟩ u3).cell? ⟨w.heap.size, 0, none⟩ = some (.slice q1 ss.length c1) ∧ ((((x.setCell ⟨Y, 0, none⟩ u0).setCell ⟨Y, 1, none⟩ u1).setCell ⟨Y, 2, none⟩ u2).setCell ⟨Y, 3, none⟩ u3).cell? ⟨w.heap.size, 1, none⟩ = some (.slice q2 ps.length c2) ∧ ((((x.setCell ⟨Y, 0, none⟩ u0).setCell ⟨Y, 1, none⟩ u1).setCell ⟨Y, 2, none⟩ u2).setCell ⟨Y, 3, none⟩ u3).cell? ⟨A, 3, none⟩ = some (.int .i64 (SG : Int)) ∧ ((((x.setCell ⟨Y, 0, none⟩ u0).setCell ⟨Y, 1, none⟩ u1).setCell ⟨Y, 2, none⟩ u2).setCell ⟨Y, 3, none⟩ u3).cell? ⟨X, 0, none⟩ = some (.slice e1 S.length d1) ∧ ((((x.setCell ⟨Y, 0, none⟩ u0).setCell ⟨Y, 1, none⟩ u1).setCell ⟨Y, 2, none⟩ u2).setCell ⟨Y, 3, none⟩ u3).cell? ⟨X, 1, none⟩ = some (.slice e2 P.length d2)) := fun x u0 u1 u2 u3 h => by
          obtain ⟨a, b, c, d, f⟩ := hXX x h
          have q1 : w.heap.size ≠ Y := by have := h.lt; have := h.st.lo; have := HWs.out.1; omega
          have q2 : A ≠ Y := by have := h.lt; have := h.st.lo; have := HWs.out.2; omega
          have q3 : X ≠ Y := by have := h.lt; omega
          refine ⟨?_, ?_, ?_, ?_, ?_⟩
          · simpa [World.cell?, World.setCell, Array.getElem?_modify, Ne.symm q1] using a
          · simpa [World.cell?, World.setCell, Array.getElem?_modify, Ne.symm q1] using b
          · simpa [World.cell?, World.setCell, Array.getElem?_modify, Ne.symm q2] using c
          · simpa [World.cell?, World.setCell, Array.getElem?_modify, Ne.symm q3] using d
          · simpa [World.cell?, World.setCell, Array.getElem?_modify, Ne.symm q3] using f
        clear hHTd hhz hCd hRSd hRPd hsn htr la lb lc hLj hXX hlt HFi hjk hB hA
        go_upto_region 22 with fail
        rw [← HW8.out]
        go_region_held3 (fun w' => w'.cell? ⟨w.heap.size, 0, none⟩ = some (.slice q1 ss.length c1) ∧ w'.cell? ⟨w.heap.size, 1, none⟩ = some (.slice q2 ps.length c2) ∧ w'.cell? ⟨A, 3, none⟩ = some (.int .i64 (SG : Int)) ∧ w'.cell? ⟨X, 0, none⟩ = some (.slice e1 S.length d1) ∧ w'.cell? ⟨X, 1, none⟩ = some (.slice e2 P.length d2)) ((first | with_reducible exact HX4.out _ _ _ _ _ tW | (refine HX2.out _ ?hT; (case hT => (with_reducible repeat (first | assumption | exact T0.out | refine PuR.drew ?_)))))) (first
          | (go_at_call 42; with_reducible refine (QH.out _ ?hT).mono ?_; (case hT => (with_reducible repeat (first | assumption | exact T0.out | refine PuR.drew ?_))); rintro e x1 ⟨rfl, tF⟩)
          | (go_at_call 41; with_reducible refine (QW.out _ ?hT).mono ?_; (case hT => (with_reducible repeat (first | assumption | exact T0.out | refine PuR.drew ?_))); rintro e xw ⟨p1, d1', p2, d2', rfl, ho, hlt9, tW⟩; obtain ⟨z0, z1, z2, z3, z4, z5, z6, z7⟩ := tW.outs))
        have hcut : Hid (PuE W4 X Y RS RP C ((((xw.setCell ⟨Y, 0, none⟩ (.slice p1 RS.length d1')).setCell ⟨Y, 1, none⟩ (.slice p2 RP.length d2')).setCell ⟨Y, 2, none⟩ (.string ByteArray.empty)).setCell ⟨Y, 3, none⟩ (.int .i64 C))) := PuE.of tW ho hlt9
        generalize ((((xw.setCell ⟨Y, 0, none⟩ (.slice p1 RS.length d1')).setCell ⟨Y, 1, none⟩ (.slice p2 RP.length d2')).setCell ⟨Y, 2, none⟩ (.string ByteArray.empty)).setCell ⟨Y, 3, none⟩ (.int .i64 C)) = wc at hcut ⊢
        clear ho hlt9 tW
        clear z0 z1 z2 z3 z4 z5 z6 z7
        obtain ⟨w1, w2, p1, d1', p2, d2', base, hst, hy, ho, hbs⟩ := hcut.out
        have HPut : Hid (StD W4 X RS RP (.slice p1 RS.length d1') (.slice p2 RP.length d2') ((wc.setCell ⟨X, 0, none⟩ (.slice p1 RS.length d1')).setCell ⟨X, 1, none⟩ (.slice p2 RP.length d2'))) := hst.put ho hbs
        have z0 := hy.cell 0
        have z1 := hy.cell 1
        have z3 := hy.cell 3
        have o0 := hst.box.cell 0
        have o1 := hst.box.cell 1
        have o2 := hst.box.fr 0
        have o3 := hst.box.fr 1
        have HBc : Hid (Below W4.heap.size W4 wc) := hst.bel
        clear hst hy ho hcut
        by_cases hc0 : C = 0
        · have HK2 : Hid (doC ss ps (L.take (j + 1)) = 0 ∧ RS = doS ss ps (L.take (j + 1)) ∧ RP = doP ss ps (L.take (j + 1)) ∧ dskB RS RP = true) := HN.out hc0
          subst hc0
          clear HN HB
          go_wp2_with fail
          go_roundw
          case rel => exact ⟨j + 1, RS, RP, _, _, by omega, by go_num, HJk2, HK2, HPut⟩
          case measure => simp [intOf]; omega
        · have hc1 : (C == 0) = false := beq_eq_false_iff_ne.2 hc0
          have hC : Hid (puC ss ps t k = C ∧ puS ss ps t k = [] ∧ puP ss ps t k = []) := HB.out hc0
          have hC0 : Hid (C ≠ 0) := hc0
          clear HN HB hc0 HPut o0 o1 o2 o3
          go_wp2_with fail
          refine (l06Ill_any C wc).mono ?_
          rintro e yi ⟨rfl, bi⟩
          have bi := chainB HBc.out bi
          have HE : Hid _ := fun x0 x1 x2 x3 x4 => HEr.out yi C x0 x1 x2 x3 x4 (chainB HB4.out bi) hC.out hC0.out
          obtain ⟨r0, r1, r2, r3, r4, f0, f1, f2, f3, f4⟩ := HR4.out yi bi
          clear bi HEr HR4 HXX HBc z0 z1 z3
          go_wp2_with fail
          refine bodyPost_ret (v := .agg #[.slice none 0 0, .slice none 0 0, .string ByteArray.empty, .int .i64 0, .int .i64 C]) (by simp [results, Tryz.results13, go_sem, r0, r1, r2, r3, r4]) rfl ?_
          exact HE.out _ _ _ _ _
      have dD : ((j : Int) == (n : Int) + 1) = false := beq_eq_false_iff_ne.2 (by omega)
      have hLj := (lc hA hB)
      rw [hLj] at hsn htr
      obtain ⟨C, hCd⟩ : ∃ C, C = stpC S P .fl := ⟨_, rfl⟩
      obtain ⟨RS, hRSd⟩ : ∃ RS, RS = stpS S P .fl := ⟨_, rfl⟩
      obtain ⟨RP, hRPd⟩ : ∃ RP, RP = stpP S P .fl := ⟨_, rfl⟩
      have HN : Hid (C = 0 → doC ss ps (L.take (j + 1)) = 0 ∧ RS = doS ss ps (L.take (j + 1)) ∧ RP = doP ss ps (L.take (j + 1)) ∧ dskB RS RP = true) := fun h => by
        rw [hCd] at h
        rw [hRSd, hRPd]
        exact ⟨by rw [hsn.1]; exact h, (hsn.2 h).1.symm, (hsn.2 h).2.symm, htr h⟩
      have HB : Hid (C ≠ 0 → puC ss ps t k = C ∧ puS ss ps t k = [] ∧ puP ss ps t k = []) := fun h => by
        have e1 := do_early (l := L) (ss := ss) (ps := ps) (k := j + 1) (m := k.toNat) (by omega) (by rw [hsn.1, ← hCd]; exact h)
        rw [hsn.1, ← hCd] at e1
        have e2 := do_ill _ ss ps (by rw [e1]; exact h)
        rw [HV.out.1, HV.out.2.1, HV.out.2.2]
        exact ⟨e1, e2.1, e2.2⟩
      have QL : Hid (∀ x, PuR W4 X Y S P (.slice e1 S.length d1) (.slice e2 P.length d2) x → Calls Tryz.prog 43 #[.agg #[.slice e1 S.length d1, .slice e2 P.length d2]] x fun e x1 => ∃ p1 d1' p2 d2', e = .returned (.agg #[.slice p1 RS.length d1', .slice p2 RP.length d2', .string ByteArray.empty, .int .i64 C]) ∧ DskO x.heap.size RS RP (.slice p1 RS.length d1') (.slice p2 RP.length d2') x1 ∧ Y < x.heap.size ∧ PuR W4 X Y S P (.slice e1 S.length d1) (.slice e2 P.length d2) x1) := fun x h => by
        have h0 := specDiskFlush_any e1 d1 S e2 d2 P x (HU1.out x h).1 (HU1.out x h).2 (by omega) (by omega) j1 j2
        rw [show flC S P = C from hCd.symm, show flS S P = RS from hRSd.symm] at h0
        have hRP0 : RP = [] := hRPd
        refine h0.mono ?_
        rintro e x1 ⟨v1, rfl, ho, hb⟩
        obtain ⟨p1, d1', rfl, -, -⟩ := ownS_form ho.own1
        subst hRP0
        exact ⟨p1, d1', none, 0, rfl, ho, h.y.lt, h.below hb⟩
      have hXX : ∀ x, PuR W4 X Y S P (.slice e1 S.length d1) (.slice e2 P.length d2) x → x.cell? ⟨w.heap.size, 0, none⟩ = some (.slice q1 ss.length c1) ∧ x.cell? ⟨w.heap.size, 1, none⟩ = some (.slice q2 ps.length c2) ∧ x.cell? ⟨A, 3, none⟩ = some (.int .i64 (SG : Int)) ∧ x.cell? ⟨X, 0, none⟩ = some (.slice e1 S.length d1) ∧ x.cell? ⟨X, 1, none⟩ = some (.slice e2 P.length d2) := fun x h => by
        obtain ⟨a, b, c⟩ := HXX.out x h.st.bel
        exact ⟨a, b, c, h.st.box.cell 0, h.st.box.cell 1⟩
      have HX2 : Hid (∀ x, PuR W4 X Y S P (.slice e1 S.length d1) (.slice e2 P.length d2) x → x.cell? ⟨w.heap.size, 0, none⟩ = some (.slice q1 ss.length c1) ∧ x.cell? ⟨w.heap.size, 1, none⟩ = some (.slice q2 ps.length c2) ∧ x.cell? ⟨A, 3, none⟩ = some (.int .i64 (SG : Int)) ∧ x.cell? ⟨X, 0, none⟩ = some (.slice e1 S.length d1) ∧ x.cell? ⟨X, 1, none⟩ = some (.slice e2 P.length d2)) := hXX
      have HX4 : Hid (∀ x (u0 u1 u2 u3 : Value), PuR W4 X Y S P (.slice e1 S.length d1) (.slice e2 P.length d2) x → ((((x.setCell ⟨Y, 0, none⟩ u0).setCell ⟨Y, 1, none⟩ u1).setCell ⟨Y, 2, none⟩ u2).setCell ⟨Y, 3, none⟩ u3).cell? ⟨w.heap.size, 0, none⟩ = some (.slice q1 ss.length c1) ∧ ((((x.setCell ⟨Y, 0, none⟩ u0).setCell ⟨Y, 1, none⟩ u1).setCell ⟨Y, 2, none⟩ u2).setCell ⟨Y, 3, none⟩ u3).cell? ⟨w.heap.size, 1, none⟩ = some (.slice q2 ps.length c2) ∧ ((((x.setCell ⟨Y, 0, none⟩ u0).setCell ⟨Y, 1, none⟩ u1).setCell ⟨Y, 2, none⟩ u2).setCell ⟨Y, 3, none⟩ u3).cell? ⟨A, 3, none⟩ = some (.int .i64 (SG : Int)) ∧ ((((x.setCell ⟨Y, 0, none⟩ u0).setCell ⟨Y, 1, none⟩ u1).setCell ⟨Y, 2, none⟩ u2).setCell ⟨Y, 3, none⟩ u3).cell? ⟨X, 0, none⟩ = some (.slice e1 S.length d1) ∧ ((((x.setCell ⟨Y, 0, none⟩ u0).setCell ⟨Y, 1, none⟩ u1).setCell ⟨Y, 2, none⟩ u2).setCell ⟨Y, 3, none⟩ u3).cell? ⟨X, 1, none⟩ = some (.slice e2 P.length d2)) := fun x u0 u1 u2 u3 h => by
        obtain ⟨a, b, c, d, f⟩ := hXX x h
        have q1 : w.heap.size ≠ Y := by have := h.lt; have := h.st.lo; have := HWs.out.1; omega
        have q2 : A ≠ Y := by have := h.lt; have := h.st.lo; have := HWs.out.2; omega
        have q3 : X ≠ Y := by have := h.lt; omega
        refine ⟨?_, ?_, ?_, ?_, ?_⟩
        · simpa [World.cell?, World.setCell, Array.getElem?_modify, Ne.symm q1] using a
        · simpa [World.cell?, World.setCell, Array.getElem?_modify, Ne.symm q1] using b
        · simpa [World.cell?, World.setCell, Array.getElem?_modify, Ne.symm q2] using c
        · simpa [World.cell?, World.setCell, Array.getElem?_modify, Ne.symm q3] using d
        · simpa [World.cell?, World.setCell, Array.getElem?_modify, Ne.symm q3] using f
      clear hCd hRSd hRPd hsn htr la lb lc hLj hlt HFi hjk hB hA
      obtain ⟨_, _, _, o0, o1⟩ := hXX W8 T0.out
      rw [HW8.out] at o0 o1
      clear hXX
      go_upto_region 18 with fail
      rw [← HW8.out] at o0 o1 ⊢
      go_wp2_with fail
      refine (QL.out W8 T0.out).mono ?_
      rintro e xw ⟨p1, d1', p2, d2', rfl, ho, hlt9, tW⟩
      obtain ⟨z0, z1, z2, z3, z4, z5, z6, z7⟩ := tW.outs
      go_upto_region 23 with fail
      have hcut : Hid (PuE W4 X Y RS RP C ((((xw.setCell ⟨Y, 0, none⟩ (.slice p1 RS.length d1')).setCell ⟨Y, 1, none⟩ (.slice p2 RP.length d2')).setCell ⟨Y, 2, none⟩ (.string ByteArray.empty)).setCell ⟨Y, 3, none⟩ (.int .i64 C))) := PuE.of tW ho hlt9
      generalize ((((xw.setCell ⟨Y, 0, none⟩ (.slice p1 RS.length d1')).setCell ⟨Y, 1, none⟩ (.slice p2 RP.length d2')).setCell ⟨Y, 2, none⟩ (.string ByteArray.empty)).setCell ⟨Y, 3, none⟩ (.int .i64 C)) = wc at hcut ⊢
      clear ho hlt9 tW
      clear z0 z1 z2 z3 z4 z5 z6 z7
      obtain ⟨w1, w2, p1, d1', p2, d2', base, hst, hy, ho, hbs⟩ := hcut.out
      have HPut : Hid (StD W4 X RS RP (.slice p1 RS.length d1') (.slice p2 RP.length d2') ((wc.setCell ⟨X, 0, none⟩ (.slice p1 RS.length d1')).setCell ⟨X, 1, none⟩ (.slice p2 RP.length d2'))) := hst.put ho hbs
      have z0 := hy.cell 0
      have z1 := hy.cell 1
      have z3 := hy.cell 3
      have o0 := hst.box.cell 0
      have o1 := hst.box.cell 1
      have o2 := hst.box.fr 0
      have o3 := hst.box.fr 1
      have HBc : Hid (Below W4.heap.size W4 wc) := hst.bel
      clear hst hy ho hcut
      by_cases hc0 : C = 0
      · have HK2 : Hid (doC ss ps (L.take (j + 1)) = 0 ∧ RS = doS ss ps (L.take (j + 1)) ∧ RP = doP ss ps (L.take (j + 1)) ∧ dskB RS RP = true) := HN.out hc0
        subst hc0
        clear HN HB
        go_wp2_with fail
        go_roundw
        case rel => exact ⟨j + 1, RS, RP, _, _, by omega, by go_num, HJk2, HK2, HPut⟩
        case measure => simp [intOf]; omega
      · have hc1 : (C == 0) = false := beq_eq_false_iff_ne.2 hc0
        have hC : Hid (puC ss ps t k = C ∧ puS ss ps t k = [] ∧ puP ss ps t k = []) := HB.out hc0
        have hC0 : Hid (C ≠ 0) := hc0
        clear HN HB hc0 HPut o0 o1 o2 o3
        go_wp2_with fail
        refine (l06Ill_any C wc).mono ?_
        rintro e yi ⟨rfl, bi⟩
        have bi := chainB HBc.out bi
        have HE : Hid _ := fun x0 x1 x2 x3 x4 => HEr.out yi C x0 x1 x2 x3 x4 (chainB HB4.out bi) hC.out hC0.out
        obtain ⟨r0, r1, r2, r3, r4, f0, f1, f2, f3, f4⟩ := HR4.out yi bi
        clear bi HEr HR4 HXX HBc z0 z1 z3
        go_wp2_with fail
        refine bodyPost_ret (v := .agg #[.slice none 0 0, .slice none 0 0, .string ByteArray.empty, .int .i64 0, .int .i64 C]) (by simp [results, Tryz.results13, go_sem, r0, r1, r2, r3, r4]) rfl ?_
        exact HE.out _ _ _ _ _
    · have hexit : L.take k.toNat = L.take j := by
        have hl := HL0.out
        by_cases h3 : j < n + 3
        · have : k.toNat = j := by omega
          rw [this]
        · rw [List.take_of_length_le (by omega), List.take_of_length_le (by omega)]
      obtain ⟨o0, o1, -, -⟩ := HF.out.cells
      obtain ⟨r0, r1, r2, r3, r4, f0, f1, f2, f3, f4⟩ := HR4.out _ HF.out.bel
      have HE : Hid (∀ x0 x1 x2 x3 x4 : Value, DskO w.heap.size S P (.slice e1 S.length d1) (.slice e2 P.length d2) (((((wr.setCell ⟨w.heap.size + 1, 0, none⟩ x0).setCell ⟨w.heap.size + 1, 1, none⟩ x1).setCell ⟨w.heap.size + 1, 2, none⟩ x2).setCell ⟨w.heap.size + 1, 3, none⟩ x3).setCell ⟨w.heap.size + 1, 4, none⟩ x4) ∧ Below w.heap.size w (((((wr.setCell ⟨w.heap.size + 1, 0, none⟩ x0).setCell ⟨w.heap.size + 1, 1, none⟩ x1).setCell ⟨w.heap.size + 1, 2, none⟩ x2).setCell ⟨w.heap.size + 1, 3, none⟩ x3).setCell ⟨w.heap.size + 1, 4, none⟩ x4)) := fun x0 x1 x2 x3 x4 => by
        have hz := HSz.out
        have hz4 := HWs.out.1
        exact ⟨(HF.out.own.set5 (by omega) x0 x1 x2 x3 x4).mono (by omega), below_set5 (chainB B2.out (chainB HB4.out HF.out.bel)) (by omega) _ _ _ _ _⟩
      have HVV : Hid (puC ss ps t k = 0 ∧ puS ss ps t k = S ∧ puP ss ps t k = P) := by
        show _ ∧ _ ∧ _
        rw [HV.out.1, HV.out.2.1, HV.out.2.2, hexit, hk0, hkS, hkP]
        exact ⟨rfl, rfl, rfl⟩
      clear hexit hk0 hkS hkP hkr HK HF HR4 HXX u1 u2 HEr HLa HL0 HPc hjk
      by_cases h3 : j < n + 3
      · have dA : decide ((j : Int) < (n : Int) + 3) = true := decide_eq_true (by omega)
        have dB : decide ((j : Int) < k) = false := decide_eq_false (by omega)
        clear h3 hlt
        go_wp2_with fail
        refine bodyPost_ret (v := .agg #[.slice e1 S.length d1, .slice e2 P.length d2, .string ByteArray.empty, .int .i64 0, .int .i64 0]) (by simp [results, Tryz.results13, go_sem, r0, r1, r2, r3, r4]; rfl) rfl ?_
        rw [HVV.out.1, HVV.out.2.1, HVV.out.2.2]
        exact ⟨_, _, rfl, HE.out _ _ _ _ _⟩
      · have dA : decide ((j : Int) < (n : Int) + 3) = false := decide_eq_false (by omega)
        clear h3 hlt
        go_wp2_with fail
        refine bodyPost_ret (v := .agg #[.slice e1 S.length d1, .slice e2 P.length d2, .string ByteArray.empty, .int .i64 0, .int .i64 0]) (by simp [results, Tryz.results13, go_sem, r0, r1, r2, r3, r4]; rfl) rfl ?_
        rw [HVV.out.1, HVV.out.2.1, HVV.out.2.2]
        exact ⟨_, _, rfl, HE.out _ _ _ _ _⟩
end Go.Proofs.YtkhffoailfnepabGreatDoor
