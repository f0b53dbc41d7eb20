/-
  Parts of one proof, laid as one text: ImplAF, IsE, ImplAC, ErrI; what each says stands at its head.
-/
import Derived.Test.YtkhffoailfnepabGreatDoorRows
import Derived.Test.YtkhffoailfnepabGreatDoorBytesDigMath
import Derived.Test.YtkhffoailfnepabGreatDoorSlASlBOwnSOwnBSrc
import Derived.Test.YtkhffoailfnepabGreatDoorDrawsDrawKitDskMath
import Derived.Test.YtkhffoailfnepabGreatDoorDskRAppSStepAppDskA
import Derived.Test.YtkhffoailfnepabGreatDoorDskSDskCDskT
import Derived.Test.YtkhffoailfnepabGreatDoorDskW
import Derived.Test.YtkhffoailfnepabGreatDoorDskFDskK
import Derived.Test.YtkhffoailfnepabGreatDoorLawDLwDskLwArLawIPutMathPutNum
import Derived.Test.YtkhffoailfnepabGreatDoorStpMathAreaPutMUnsealSSpecGN
import Derived.Test.YtkhffoailfnepabGreatDoorFourSealAreaAAreaF
import Derived.Test.YtkhffoailfnepabGreatDoorAreaFm
import Derived.Test.YtkhffoailfnepabGreatDoorPuLeImplDRImplAACopied
import Derived.Test.YtkhffoailfnepabGreatDoorImplSuImplSv
import Derived.Handy
import Derived.WalkSpells
import Derived.OwnWalk
import Derived.Deep.RegionHeld3
import Derived.Test.YtkhffoailfnepabGreatDoorChecked
import Derived.WalkKit
import Derived.LaidEql
import Derived.Stop.Asserts
import Derived.RowKitTokens
import Derived.Test.YtkhffoailfnepabGreatDoorGetValAsDAs2CodeOfGetNumI
import Derived.Test.YtkhffoailfnepabGreatDoorGetTextITextMathAreaMath
/-
  What the program's AreaFormat answers: as the specification's.
  Conditions: the cells of Sectors and Pending hold the texts and the pendings.
-/
namespace Go.Proofs.YtkhffoailfnepabGreatDoor
open Go.RowKit Go.Lib
set_option linter.unusedVariables false
set_option maxRecDepth 20000

theorem fm_do {ss : List ByteArray} {ps : List Pnd} (H : ByteArray) (hr : dskB ss ps = true) :
    doC ss ps [.wr 0 H, .fl] = wrC ss ps 0 H ∧ doS ss ps [.wr 0 H, .fl] = (if wrC ss ps 0 H = 0 then flushB ss (ps ++ [(0, H)]) else []) ∧ doP ss ps [.wr 0 H, .fl] = [] := by
  have e0 : stpC ss ps (.wr 0 H) = wrC ss ps 0 H := rfl
  by_cases h : wrC ss ps 0 H = 0
  · have h' : stpC ss ps (.wr 0 H) = 0 := h
    have e1 : stpS ss ps (.wr 0 H) = ss := if_pos h
    have e2 : stpP ss ps (.wr 0 H) = ps ++ [(0, H)] := if_pos h
    have hr2 := write_right h
    have f1 : stpC ss (ps ++ [(0, H)]) .fl = 0 := if_pos hr2
    have f2 : stpS ss (ps ++ [(0, H)]) .fl = flushB ss (ps ++ [(0, H)]) := if_pos hr2
    rw [doC_y h', doS_y h', doP_y h', e1, e2, doC_y f1, doS_y f1, doP_y f1, f2, if_pos h, h]
    exact ⟨rfl, rfl, rfl⟩
  · have h' : ¬ stpC ss ps (.wr 0 H) = 0 := h
    rw [doC_n h', doS_n h', doP_n h', if_neg h]
    exact ⟨rfl, rfl, rfl⟩
theorem two_steps {w : World} {b : Nat} {H : ByteArray} (h : w.heap[b]? = some (.cells #[.bool false, .int .i64 0, .string H, .bool true, .int .i64 0, .string ByteArray.empty] 99 (0, 0))) : StpAt w (some ⟨b, 0, none⟩) [.wr 0 H, .fl] := by
  intro i hi
  have hb := lt_of_block h
  match i, hi with
  | 0, _ => exact ⟨b, 0, rfl, hb, by simp [World.cell?, h]; rfl, by simp [World.cell?, h]; rfl, by simp [World.cell?, h]; rfl⟩
  | 1, _ => exact ⟨b, 0, rfl, hb, by simp [World.cell?, h]; rfl, by simp [World.cell?, h]; rfl, by simp [World.cell?, h]; rfl⟩
set_option maxHeartbeats 4000000 in
theorem implAreaFormat_any (q1 : Option Addr) (c1 : Nat) (ss : List ByteArray) (q2 : Option Addr) (c2 : Nat) (ps : List Pnd) (w : World) (h1 : TxtAt w q1 ss) (h2 : PndAt w q2 ps) (n1 : ss.length ≤ 1048576) (n2 : ps.length ≤ 1048576) (m1 : ss.length ≤ c1) (m2 : ps.length ≤ c2) :
    Calls Tryz.prog 10 #[.agg #[.slice q1 ss.length c1, .slice q2 ps.length c2]] w fun e w' => ∃ v1 v2, e = .returned (.agg #[v1, v2, .string ByteArray.empty, .int .i64 0, .int .i64 (fmC ss ps)]) ∧ DskO w.heap.size (fmS ss ps) [] v1 v2 w' ∧ Below w.heap.size w w' := by
  obtain ⟨W2, hW2⟩ : ∃ W2, W2 = (w.alloc (.cells #[.slice q1 ss.length c1, .slice q2 ps.length c2] 26)).alloc (.cells #[.slice none 0 0, .slice none 0 0, .string ⟨#[]⟩, .int .i64 0, .int .i64 0] 31) := ⟨_, rfl⟩
  have HW2 : Hid (W2 = (w.alloc (.cells #[.slice q1 ss.length c1, .slice q2 ps.length c2] 26)).alloc (.cells #[.slice none 0 0, .slice none 0 0, .string ⟨#[]⟩, .int .i64 0, .int .i64 0] 31)) := hW2
  have hs1 : (w.alloc (.cells #[.slice q1 ss.length c1, .slice q2 ps.length c2] 26)).heap.size = w.heap.size + 1 := by simp
  have S2 : W2.heap.size = w.heap.size + 2 := by rw [hW2]; simp
  have R0 : Bxs W2 w.heap.size 26 #[.slice q1 ss.length c1, .slice q2 ps.length c2] := by rw [hW2]; exact (Bxs.new _ _ _).alloc _
  have R1 : Bxs W2 (w.heap.size + 1) 31 #[.slice none 0 0, .slice none 0 0, .string ByteArray.empty, .int .i64 0, .int .i64 0] := by rw [hW2, ← hs1]; exact Bxs.new _ _ _
  have B2 : Hid (Below w.heap.size w W2) := by rw [hW2]; exact ((Below.refl _ _).alloc (Nat.le_refl _) _).alloc (by rw [hs1]; omega) _
  have T1 : Hid (TxtAt W2 q1 ss) := h1.below B2.out
  have T2 : Hid (PndAt W2 q2 ps) := h2.below B2.out
  have HX : Hid (∀ x, Below W2.heap.size W2 x → x.cell? ⟨w.heap.size, 0, none⟩ = some (.slice q1 ss.length c1) ∧ x.cell? ⟨w.heap.size, 1, none⟩ = some (.slice q2 ps.length c2)) := fun x hb => ⟨(R0.below hb).cell 0, (R0.below hb).cell 1⟩
  have HR : Hid (∀ x, Below W2.heap.size W2 x → x.cell? ⟨w.heap.size + 1, 0, none⟩ = some (.slice none 0 0) ∧ x.cell? ⟨w.heap.size + 1, 1, none⟩ = some (.slice none 0 0) ∧ x.cell? ⟨w.heap.size + 1, 2, none⟩ = some (.string ByteArray.empty) ∧ x.cell? ⟨w.heap.size + 1, 3, none⟩ = some (.int .i64 0) ∧ x.cell? ⟨w.heap.size + 1, 4, none⟩ = some (.int .i64 0) ∧ x.frozen? ⟨w.heap.size + 1, 0, none⟩ = false ∧ x.frozen? ⟨w.heap.size + 1, 1, none⟩ = false ∧ x.frozen? ⟨w.heap.size + 1, 2, none⟩ = false ∧ x.frozen? ⟨w.heap.size + 1, 3, none⟩ = false ∧ x.frozen? ⟨w.heap.size + 1, 4, none⟩ = false) := fun x hb => by
    have k := R1.below hb
    exact ⟨k.cell 0, k.cell 1, k.cell 2, k.cell 3, k.cell 4, k.fr 0, k.fr 1, k.fr 2, k.fr 3, k.fr 4⟩
  have HEr : Hid (∀ (y : World) (c : Int) (x0 x1 x2 x3 x4 : Value), Below W2.heap.size W2 y → fmC ss ps = c → c ≠ 0 → ∃ v1 v2, Ending.returned (.agg #[.slice none 0 0, .slice none 0 0, .string ByteArray.empty, .int .i64 0, .int .i64 c]) = .returned (.agg #[v1, v2, .string ByteArray.empty, .int .i64 0, .int .i64 (fmC ss ps)]) ∧ DskO w.heap.size (fmS ss ps) [] v1 v2 (((((y.setCell ⟨w.heap.size + 1, 0, none⟩ x0).setCell ⟨w.heap.size + 1, 1, none⟩ x1).setCell ⟨w.heap.size + 1, 2, none⟩ x2).setCell ⟨w.heap.size + 1, 3, none⟩ x3).setCell ⟨w.heap.size + 1, 4, none⟩ x4) ∧ Below w.heap.size w (((((y.setCell ⟨w.heap.size + 1, 0, none⟩ x0).setCell ⟨w.heap.size + 1, 1, none⟩ x1).setCell ⟨w.heap.size + 1, 2, none⟩ x2).setCell ⟨w.heap.size + 1, 3, none⟩ x3).setCell ⟨w.heap.size + 1, 4, none⟩ x4)) := by
    intro y c x0 x1 x2 x3 x4 hb hc hn
    have hn' : ¬ fmC ss ps = 0 := by rw [hc]; exact hn
    rw [show fmS ss ps = [] from if_neg hn', hc]
    exact ⟨_, _, rfl, DskO.nil _ _, below_set5 (chainB B2.out hb) (by omega) _ _ _ _ _⟩
  have hD := implDiskRight_any q1 c1 ss q2 c2 ps W2 T1.out T2.out n1 n2 m1 m2
  obtain ⟨t0, t1⟩ := HX.out W2 (Below.refl _ _)
  have HSz : Hid (W2.heap.size = w.heap.size + 2) := S2
  rw [HW2.out] at t0 t1
  clear hW2 R0 R1 h1 h2 hs1 S2
  cases hd : dskB ss ps with
  | false =>
    have hC : Hid (fmC ss ps = 1) := if_neg (by rw [hd]; exact Bool.false_ne_true)
    have hC0 : Hid ((1 : Int) ≠ 0) := by show _ ≠ _; omega
    rw [hd] at hD
    clear hd T1 T2
    go_enter Tryz.func10, Tryz.ntmps10
    go_wp2_with fail
    rw [← HW2.out]
    refine hD.mono ?_
    rintro e y1 ⟨rfl, b1⟩
    have HE : Hid _ := fun x0 x1 x2 x3 x4 => HEr.out y1 1 x0 x1 x2 x3 x4 b1 hC.out hC0.out
    obtain ⟨r0, r1, r2, r3, r4, f0, f1, f2, f3, f4⟩ := HR.out y1 b1
    clear HEr HR HX b1 t0 t1
    go_wp2_with fail
    refine bodyPost_ret (v := .agg #[.slice none 0 0, .slice none 0 0, .string ByteArray.empty, .int .i64 0, .int .i64 1]) (by simp [results, Tryz.results10, go_sem, r0, r1, r2, r3, r4]; rfl) rfl ?_
    exact HE.out _ _ _ _ _
  | true =>
  rw [hd] at hD
  have hF : fmC ss ps = if ss.length < 3 then 9 else wrC ss ps 0 (headB 0 0 0) := if_pos hd
  by_cases h3 : ss.length < 3
  · have hC : Hid (fmC ss ps = 9) := by show _ = _; rw [hF, if_pos h3]
    have hC0 : Hid ((9 : Int) ≠ 0) := by show _ ≠ _; omega
    have d3 : decide ((ss.length : Int) < 3) = true := decide_eq_true (by omega)
    clear hd T1 T2 hF h3
    go_enter Tryz.func10, Tryz.ntmps10
    go_wp2_with fail
    rw [← HW2.out]
    refine hD.mono ?_
    rintro e y1 ⟨rfl, b1⟩
    clear t0 t1
    obtain ⟨t0, t1⟩ := HX.out y1 b1
    have HE : Hid _ := fun x0 x1 x2 x3 x4 => HEr.out y1 9 x0 x1 x2 x3 x4 b1 hC.out hC0.out
    obtain ⟨r0, r1, r2, r3, r4, f0, f1, f2, f3, f4⟩ := HR.out y1 b1
    clear HEr HR HX b1
    go_wp2_with fail
    refine bodyPost_ret (v := .agg #[.slice none 0 0, .slice none 0 0, .string ByteArray.empty, .int .i64 0, .int .i64 9]) (by simp [results, Tryz.results10, go_sem, r0, r1, r2, r3, r4]; rfl) rfl ?_
    exact HE.out _ _ _ _ _
  rw [if_neg h3] at hF
  have d3 : decide ((ss.length : Int) < 3) = false := decide_eq_false (by omega)
  have hhs := headB_small 0 0 0
  obtain ⟨HT, hHT⟩ : ∃ HT, HT = headB 0 0 0 := ⟨_, rfl⟩
  obtain ⟨k1, k2, k3⟩ := fm_do HT hd
  obtain ⟨RS, hRS⟩ : ∃ RS, RS = doS ss ps [.wr 0 HT, .fl] := ⟨_, rfl⟩
  obtain ⟨RP, hRP⟩ : ∃ RP, RP = doP ss ps [.wr 0 HT, .fl] := ⟨_, rfl⟩
  obtain ⟨C, hC⟩ : ∃ C, C = doC ss ps [.wr 0 HT, .fl] := ⟨_, rfl⟩
  have HE : Hid (fmC ss ps = C ∧ fmS ss ps = RS ∧ RP = []) := by
    refine ⟨by rw [hF, hC, k1, hHT], ?_, by rw [hRP]; exact k3⟩
    show (if fmC ss ps = 0 then _ else _) = _
    rw [hF, hRS, k2, hHT]
  have QH : Hid (∀ x, Below W2.heap.size W2 x → Calls Tryz.prog 32 #[.agg #[.int .i64 0, .int .i64 0, .int .i64 0]] x fun e x1 => ∃ b, e = .returned (.slice (some ⟨b, 0, none⟩) 2 2) ∧ StpAt x1 (some ⟨b, 0, none⟩) [.wr 0 HT, .fl] ∧ Below W2.heap.size W2 x1) := fun x hb => (headSteps_any 0 0 0 x (by omega) (by omega) (by omega) (by omega) (by omega) (by omega)).mono (by
    rintro e x1 ⟨b, -, rfl, hbl, hb1⟩
    rw [← hHT] at hbl
    exact ⟨b, rfl, two_steps hbl, chainB hb hb1⟩)
  have QA : Hid (∀ x b, Below W2.heap.size W2 x → StpAt x (some ⟨b, 0, none⟩) [.wr 0 HT, .fl] → Calls Tryz.prog 30 #[.agg #[.slice q1 ss.length c1, .slice q2 ps.length c2], .slice (some ⟨b, 0, none⟩) 2 2] x fun e x1 => ∃ p1 d1 p2 d2, e = .returned (.agg #[.slice p1 RS.length d1, .slice p2 RP.length d2, .string ByteArray.empty, .int .i64 0, .int .i64 C]) ∧ DskO W2.heap.size RS RP (.slice p1 RS.length d1) (.slice p2 RP.length d2) x1 ∧ Below W2.heap.size W2 x1) := fun x b hb hst => by
    have h := allDoneTo_any q1 c1 ss q2 c2 ps (some ⟨b, 0, none⟩) 2 [.wr 0 HT, .fl] x (T1.out.below hb) (T2.out.below hb) hst hd m1 m2 (by simp) (by simp) (fun s hs => by
      rcases List.mem_cons.1 hs with rfl | hs
      · show HT.size ≤ _; rw [hHT]; omega
      · rcases List.mem_cons.1 hs with rfl | hs
        · show ByteArray.empty.size ≤ _; simp
        · cases hs)
    rw [← hRS, ← hRP, ← hC] at h
    refine h.mono ?_
    rintro e x1 ⟨v1, v2, rfl, ho, hb1⟩
    obtain ⟨p1, d1, rfl, -, -⟩ := ownS_form ho.own1
    obtain ⟨p2, d2, rfl, -, -⟩ := ownP_form ho.own2
    exact ⟨p1, d1, p2, d2, rfl, ho.mono hb.size, chainB hb hb1⟩
  have HQ : Hid (∀ (y : World) (p1 : Option Addr) (d1 : Nat) (p2 : Option Addr) (d2 : Nat) (x0 x1 x2 x3 x4 : Value), DskO W2.heap.size RS RP (.slice p1 RS.length d1) (.slice p2 RP.length d2) y → Below W2.heap.size W2 y → DskO w.heap.size RS RP (.slice p1 RS.length d1) (.slice p2 RP.length d2) (((((y.setCell ⟨w.heap.size + 1, 0, none⟩ x0).setCell ⟨w.heap.size + 1, 1, none⟩ x1).setCell ⟨w.heap.size + 1, 2, none⟩ x2).setCell ⟨w.heap.size + 1, 3, none⟩ x3).setCell ⟨w.heap.size + 1, 4, none⟩ x4) ∧ Below w.heap.size w (((((y.setCell ⟨w.heap.size + 1, 0, none⟩ x0).setCell ⟨w.heap.size + 1, 1, none⟩ x1).setCell ⟨w.heap.size + 1, 2, none⟩ x2).setCell ⟨w.heap.size + 1, 3, none⟩ x3).setCell ⟨w.heap.size + 1, 4, none⟩ x4)) := by
    intro y p1 d1 p2 d2 x0 x1 x2 x3 x4 ho hb
    have hz := HSz.out
    exact ⟨(ho.set5 (by omega) x0 x1 x2 x3 x4).mono (by omega), below_set5 (chainB B2.out hb) (by omega) _ _ _ _ _⟩
  have HX5 : Hid (∀ x (u0 u1 u2 u3 u4 : Value), Below W2.heap.size W2 x → (((((x.setCell ⟨w.heap.size + 1, 0, none⟩ u0).setCell ⟨w.heap.size + 1, 1, none⟩ u1).setCell ⟨w.heap.size + 1, 2, none⟩ u2).setCell ⟨w.heap.size + 1, 3, none⟩ u3).setCell ⟨w.heap.size + 1, 4, none⟩ u4).cell? ⟨w.heap.size, 0, none⟩ = some (.slice q1 ss.length c1) ∧ (((((x.setCell ⟨w.heap.size + 1, 0, none⟩ u0).setCell ⟨w.heap.size + 1, 1, none⟩ u1).setCell ⟨w.heap.size + 1, 2, none⟩ u2).setCell ⟨w.heap.size + 1, 3, none⟩ u3).setCell ⟨w.heap.size + 1, 4, none⟩ u4).cell? ⟨w.heap.size, 1, none⟩ = some (.slice q2 ps.length c2)) := fun x u0 u1 u2 u3 u4 hb => by
    have h := HX.out x hb
    simpa [World.cell?, World.setCell, Array.getElem?_modify] using h
  clear hHT hRS hRP hC hF hhs k1 k2 k3 hd T1 T2 HEr
  go_enter Tryz.func10, Tryz.ntmps10
  go_wp2_with fail
  rw [← HW2.out]
  refine hD.mono ?_
  rintro e y1 ⟨rfl, b1⟩
  clear t0 t1
  obtain ⟨t0, t1⟩ := HX.out y1 b1
  have HB1 : Hid (Below W2.heap.size W2 y1) := b1
  clear b1
  go_wp2_with fail
  go_region_held3 (fun w' => w'.cell? ⟨w.heap.size, 0, none⟩ = some (.slice q1 ss.length c1) ∧ w'.cell? ⟨w.heap.size, 1, none⟩ = some (.slice q2 ps.length c2)) ((first | with_reducible exact HX5.out _ _ _ _ _ _ z2 | (refine HX.out _ ?hT; (case hT => (with_reducible repeat (first | assumption | exact HB1.out | refine Below.drew ?_)))))) (first
    | (go_at_call 32; with_reducible refine (QH.out _ ?hB).mono ?_; (case hB => first | exact HB1.out | exact HB1.out.drew); rintro e x1 ⟨bs, rfl, hst, z1⟩)
    | (go_at_call 30; with_reducible refine (QA.out _ bs ?hB ?hS).mono ?_; (case hB => first | exact z1 | exact z1.drew); (case hS => first | exact hst | exact hst.below (Below.refl _ _).drew); rintro e x2 ⟨p1, d1, p2, d2, rfl, ho, z2⟩; obtain ⟨r0, r1, r2, r3, r4, f0, f1, f2, f3, f4⟩ := HR.out _ z2))
  all_goals
    have HV : Hid _ := fun x0 x1 x2 x3 x4 => HQ.out _ p1 d1 p2 d2 x0 x1 x2 x3 x4 ho z2
    go_wp2_with fail
    refine bodyPost_ret (v := .agg #[.slice p1 RS.length d1, .slice p2 RP.length d2, .string ByteArray.empty, .int .i64 0, .int .i64 C]) (by simp [results, Tryz.results10, go_sem, r0, r1, r2, r3, r4]) rfl ?_
    rw [HE.out.1, HE.out.2.1]
    have := HE.out.2.2
    subst this
    exact ⟨_, _, rfl, HV.out _ _ _ _ _⟩
end Go.Proofs.YtkhffoailfnepabGreatDoor
/-
  errors.Is by its contracts: of two sentinels (pointers to errors.errorString), and of a wrongBytes against a sentinel.
  Conditions: the sentinels' cells are there, not frozen.
-/
namespace Go.Proofs.YtkhffoailfnepabGreatDoor
open Go.RowKit Go.Extern.Stop Go.Stop Go.Extern
set_option linter.unusedVariables false
set_option maxRecDepth 20000

theorem isTypeOf (v : Value) (w : World) : (Extern.ReflectliteType.typeOf #[.iface 159 v]).run Tryz.prog w = .ok (.iface 127 (.agg #[.pointer (some ⟨5, 159, none⟩)])) w := by kernel_rfl
def compFn := Extern.ReflectliteType.method fun t => do Go.Extern.Rtype.noPackHeld "Comparable" t; pure (.bool (← typeInfo t).comparable)
theorem isComparable (w : World) : (compFn #[.agg #[.pointer (some ⟨5, 159, none⟩)]]).run Tryz.prog w = .ok (.bool true) w := by kernel_rfl
theorem isMethodComparable (v : Value) (w : World) : (Go.method 292 127 v "Comparable").run Tryz.prog w = .ok (119, v) w := by kernel_rfl
theorem isComp : (Tryz.prog.info? 159).map (·.comparable) = some true := by kernel_rfl
theorem isSize : (Tryz.prog.info? 180).map (·.size) = some 1 := by kernel_rfl
theorem noIsE (v : Value) (xT : TypeId) (w : World) : (Instr.typeAssert (.iface 159 v) xT 129 true).run Tryz.prog w = .ok (.tuple #[.nilIface, .bool false]) w := run_typeAssert_lacksB Tryz.underlying129 (by kernel_rfl) (by kernel_rfl) v xT w
theorem noUnwrapE (v : Value) (xT : TypeId) (w : World) : (Instr.typeAssert (.iface 159 v) xT 132 true).run Tryz.prog w = .ok (.tuple #[.nilIface, .bool false]) w := run_typeAssert_lacksB Tryz.underlying132 (by kernel_rfl) (by kernel_rfl) v xT w
theorem noUnwrapsE (v : Value) (xT : TypeId) (w : World) : (Instr.typeAssert (.iface 159 v) xT 134 true).run Tryz.prog w = .ok (.tuple #[.nilIface, .bool false]) w := run_typeAssert_lacksB Tryz.underlying134 (by kernel_rfl) (by kernel_rfl) v xT w
theorem noIsB (v : Value) (xT : TypeId) (w : World) : (Instr.typeAssert (.iface 112 v) xT 129 true).run Tryz.prog w = .ok (.tuple #[.nilIface, .bool false]) w := run_typeAssert_lacksB Tryz.underlying129 (by kernel_rfl) (by kernel_rfl) v xT w
theorem noUnwrapB (v : Value) (xT : TypeId) (w : World) : (Instr.typeAssert (.iface 112 v) xT 132 true).run Tryz.prog w = .ok (.tuple #[.nilIface, .bool false]) w := run_typeAssert_lacksB Tryz.underlying132 (by kernel_rfl) (by kernel_rfl) v xT w
theorem noUnwrapsB (v : Value) (xT : TypeId) (w : World) : (Instr.typeAssert (.iface 112 v) xT 134 true).run Tryz.prog w = .ok (.tuple #[.nilIface, .bool false]) w := run_typeAssert_lacksB Tryz.underlying134 (by kernel_rfl) (by kernel_rfl) v xT w

/-- errors.Is(x, x), x a sentinel. -/
theorem is_same (a : Addr) (w : World) :
    Calls Tryz.prog 56 #[.iface 159 (.pointer (some a)), .iface 159 (.pointer (some a))] w fun e w' => e = .returned (.bool true) ∧ w' = w := by
  obtain ⟨i, hi, hcmp⟩ := Option.map_eq_some_iff.1 isComp
  obtain ⟨j, hj, hjs⟩ := Option.map_eq_some_iff.1 isSize
  have h8 := @run_callFunc_extern Tryz.prog 76 _ Extern.ReflectliteType.typeOf Tryz.func76 (by kernel_rfl) (by kernel_rfl) (by kernel_rfl) (by kernel_rfl)
  have h32 := @run_callFunc_extern Tryz.prog 119 _ compFn Tryz.func119 (by kernel_rfl) (by kernel_rfl) (by kernel_rfl) (by kernel_rfl)
  have tT := isTypeOf
  have cT := isComparable
  have mR := isMethodComparable
  have heq := run_eql_iface_ptr_same (P := Tryz.prog) w a Tryz.underlying51 Tryz.underlying159 hi hcmp hj
  go_enter Tryz.func56, Tryz.ntmps56
  go_wp2
  refine wp_loop_rounds 1 ?_
  rw [rounds_succ]
  go_wp2
  go_ret
  exact ⟨rfl, rfl⟩
/-- errors.Is of two sentinels that are not one. -/
theorem is_other (a b : Addr) (ca cb : Array Value) (ta tb : TypeId) (w : World) (hne : a ≠ b) (ha : w.heap[a.block]? = some (.cells ca ta (0, 0))) (hb : w.heap[b.block]? = some (.cells cb tb (0, 0))) :
    Calls Tryz.prog 56 #[.iface 159 (.pointer (some a)), .iface 159 (.pointer (some b))] w fun e w' => e = .returned (.bool false) ∧ w' = w := by
  obtain ⟨i, hi, hcmp⟩ := Option.map_eq_some_iff.1 isComp
  obtain ⟨j, hj, hjs⟩ := Option.map_eq_some_iff.1 isSize
  have h8 := @run_callFunc_extern Tryz.prog 76 _ Extern.ReflectliteType.typeOf Tryz.func76 (by kernel_rfl) (by kernel_rfl) (by kernel_rfl) (by kernel_rfl)
  have h32 := @run_callFunc_extern Tryz.prog 119 _ compFn Tryz.func119 (by kernel_rfl) (by kernel_rfl) (by kernel_rfl) (by kernel_rfl)
  have tT := isTypeOf
  have cT := isComparable
  have mR := isMethodComparable
  have nE := noIsE
  have uE := noUnwrapE
  have vE := noUnwrapsE
  have heq := run_eql_iface_ptr_other (P := Tryz.prog) w Tryz.underlying51 Tryz.underlying159 hi hcmp hj (by rw [hjs]; decide) hne ha hb
  go_enter Tryz.func56, Tryz.ntmps56
  go_wp2
  refine wp_loop_rounds 1 ?_
  rw [rounds_succ]
  go_wp2
  go_ret
  exact ⟨rfl, rfl⟩
/-- errors.Is of a wrongBytes and a sentinel. -/
theorem is_wrong (v : Value) (b : Addr) (w : World) :
    Calls Tryz.prog 56 #[.iface 112 v, .iface 159 (.pointer (some b))] w fun e w' => e = .returned (.bool false) ∧ w' = w := by
  have h8 := @run_callFunc_extern Tryz.prog 76 _ Extern.ReflectliteType.typeOf Tryz.func76 (by kernel_rfl) (by kernel_rfl) (by kernel_rfl) (by kernel_rfl)
  have h32 := @run_callFunc_extern Tryz.prog 119 _ compFn Tryz.func119 (by kernel_rfl) (by kernel_rfl) (by kernel_rfl) (by kernel_rfl)
  have tT := isTypeOf
  have cT := isComparable
  have mR := isMethodComparable
  have nB := noIsB
  have uB := noUnwrapB
  have vB := noUnwrapsB
  have hty := run_eql_iface_types (P := Tryz.prog) 112 159 v (.pointer (some b)) Tryz.underlying51 (by decide) w
  go_enter Tryz.func56, Tryz.ntmps56
  go_wp2
  refine wp_loop_rounds 1 ?_
  rw [rounds_succ]
  go_wp2
  go_ret
  exact ⟨rfl, rfl⟩
end Go.Proofs.YtkhffoailfnepabGreatDoor
/-
  What the program's areaCode answers: of each sentinel its code, of a wrongBytes what it bears.
  Conditions: the four sentinels and errors.errorType are laid as the program's text lays them.
-/
namespace Go.Proofs.YtkhffoailfnepabGreatDoor
open Go.RowKit Go.Lib
set_option linter.unusedVariables false
set_option maxRecDepth 20000

/-- The four sentinels: where they lie, and that they are four. -/
structure Sents (a1 a2 a3 a4 : Addr) (w : World) : Prop where
  c1 : w.cell? ⟨0, 0, none⟩ = some (.iface 159 (.pointer (some a1)))
  c2 : w.cell? ⟨1, 0, none⟩ = some (.iface 159 (.pointer (some a2)))
  c3 : w.cell? ⟨2, 0, none⟩ = some (.iface 159 (.pointer (some a3)))
  c4 : w.cell? ⟨3, 0, none⟩ = some (.iface 159 (.pointer (some a4)))
  r1 : ∃ cs t, w.heap[a1.block]? = some (.cells cs t (0, 0))
  r2 : ∃ cs t, w.heap[a2.block]? = some (.cells cs t (0, 0))
  r3 : ∃ cs t, w.heap[a3.block]? = some (.cells cs t (0, 0))
  r4 : ∃ cs t, w.heap[a4.block]? = some (.cells cs t (0, 0))
  n12 : a1 ≠ a2
  n13 : a1 ≠ a3
  n14 : a1 ≠ a4
  n23 : a2 ≠ a3
  n24 : a2 ≠ a4
  n34 : a3 ≠ a4
theorem Sents.below {a1 a2 a3 a4 : Addr} {w w' : World} (h : Sents a1 a2 a3 a4 w) (hb : Below w.heap.size w w') : Sents a1 a2 a3 a4 w' where
  c1 := (hb.cell (p := ⟨0, 0, none⟩) (World.block_lt_of_cell? w _ h.c1)).trans h.c1
  c2 := (hb.cell (p := ⟨1, 0, none⟩) (World.block_lt_of_cell? w _ h.c2)).trans h.c2
  c3 := (hb.cell (p := ⟨2, 0, none⟩) (World.block_lt_of_cell? w _ h.c3)).trans h.c3
  c4 := (hb.cell (p := ⟨3, 0, none⟩) (World.block_lt_of_cell? w _ h.c4)).trans h.c4
  r1 := by
    obtain ⟨cs, t, e⟩ := h.r1
    exact ⟨cs, t, (hb.block a1.block (lt_of_block e)).trans e⟩
  r2 := by
    obtain ⟨cs, t, e⟩ := h.r2
    exact ⟨cs, t, (hb.block a2.block (lt_of_block e)).trans e⟩
  r3 := by
    obtain ⟨cs, t, e⟩ := h.r3
    exact ⟨cs, t, (hb.block a3.block (lt_of_block e)).trans e⟩
  r4 := by
    obtain ⟨cs, t, e⟩ := h.r4
    exact ⟨cs, t, (hb.block a4.block (lt_of_block e)).trans e⟩
  n12 := h.n12
  n13 := h.n13
  n14 := h.n14
  n23 := h.n23
  n24 := h.n24
  n34 := h.n34
theorem areaCode_1 (a1 a2 a3 a4 : Addr) (w : World) (h : Sents a1 a2 a3 a4 w) :
    Calls Tryz.prog 27 #[.iface 159 (.pointer (some a1))] w fun e w' => e = .returned (.int .i64 1) ∧ w' = w := by
  have g1 := h.c1
  have g2 := h.c2
  have g3 := h.c3
  have g4 := h.c4
  have I1 : Hid (Calls Tryz.prog 56 #[.iface 159 (.pointer (some a1)), .iface 159 (.pointer (some a1))] w fun e w' => e = .returned (.bool true) ∧ w' = w) := is_same a1 w
  clear h
  go_enter Tryz.func27, Tryz.ntmps27
  go_wp2_with fail
  refine I1.out.mono ?_
  rintro e wx ⟨rfl, rfl⟩
  go_wp2_with fail
  go_ret
  exact ⟨rfl, rfl⟩
theorem areaCode_2 (a1 a2 a3 a4 : Addr) (w : World) (h : Sents a1 a2 a3 a4 w) :
    Calls Tryz.prog 27 #[.iface 159 (.pointer (some a2))] w fun e w' => e = .returned (.int .i64 3) ∧ w' = w := by
  have g1 := h.c1
  have g2 := h.c2
  have g3 := h.c3
  have g4 := h.c4
  obtain ⟨ck1, tk1, ek1⟩ := h.r2
  obtain ⟨ci1, ti1, ei1⟩ := h.r1
  have I1 : Hid (Calls Tryz.prog 56 #[.iface 159 (.pointer (some a2)), .iface 159 (.pointer (some a1))] w fun e w' => e = .returned (.bool false) ∧ w' = w) := is_other a2 a1 _ _ _ _ w h.n12.symm ek1 ei1
  have I2 : Hid (Calls Tryz.prog 56 #[.iface 159 (.pointer (some a2)), .iface 159 (.pointer (some a2))] w fun e w' => e = .returned (.bool true) ∧ w' = w) := is_same a2 w
  clear h
  clear ek1 ei1
  go_enter Tryz.func27, Tryz.ntmps27
  go_wp2_with fail
  refine I1.out.mono ?_
  rintro e wx ⟨rfl, rfl⟩
  go_wp2_with fail
  refine I2.out.mono ?_
  rintro e wx ⟨rfl, rfl⟩
  go_wp2_with fail
  go_ret
  exact ⟨rfl, rfl⟩
theorem areaCode_3 (a1 a2 a3 a4 : Addr) (w : World) (h : Sents a1 a2 a3 a4 w) :
    Calls Tryz.prog 27 #[.iface 159 (.pointer (some a3))] w fun e w' => e = .returned (.int .i64 5) ∧ w' = w := by
  have g1 := h.c1
  have g2 := h.c2
  have g3 := h.c3
  have g4 := h.c4
  obtain ⟨ck1, tk1, ek1⟩ := h.r3
  obtain ⟨ci1, ti1, ei1⟩ := h.r1
  have I1 : Hid (Calls Tryz.prog 56 #[.iface 159 (.pointer (some a3)), .iface 159 (.pointer (some a1))] w fun e w' => e = .returned (.bool false) ∧ w' = w) := is_other a3 a1 _ _ _ _ w h.n13.symm ek1 ei1
  obtain ⟨ck2, tk2, ek2⟩ := h.r3
  obtain ⟨ci2, ti2, ei2⟩ := h.r2
  have I2 : Hid (Calls Tryz.prog 56 #[.iface 159 (.pointer (some a3)), .iface 159 (.pointer (some a2))] w fun e w' => e = .returned (.bool false) ∧ w' = w) := is_other a3 a2 _ _ _ _ w h.n23.symm ek2 ei2
  have I3 : Hid (Calls Tryz.prog 56 #[.iface 159 (.pointer (some a3)), .iface 159 (.pointer (some a3))] w fun e w' => e = .returned (.bool true) ∧ w' = w) := is_same a3 w
  clear h
  clear ek1 ei1
  clear ek2 ei2
  go_enter Tryz.func27, Tryz.ntmps27
  go_wp2_with fail
  refine I1.out.mono ?_
  rintro e wx ⟨rfl, rfl⟩
  go_wp2_with fail
  refine I2.out.mono ?_
  rintro e wx ⟨rfl, rfl⟩
  go_wp2_with fail
  refine I3.out.mono ?_
  rintro e wx ⟨rfl, rfl⟩
  go_wp2_with fail
  go_ret
  exact ⟨rfl, rfl⟩
theorem areaCode_4 (a1 a2 a3 a4 : Addr) (w : World) (h : Sents a1 a2 a3 a4 w) :
    Calls Tryz.prog 27 #[.iface 159 (.pointer (some a4))] w fun e w' => e = .returned (.int .i64 9) ∧ w' = w := by
  have g1 := h.c1
  have g2 := h.c2
  have g3 := h.c3
  have g4 := h.c4
  obtain ⟨ck1, tk1, ek1⟩ := h.r4
  obtain ⟨ci1, ti1, ei1⟩ := h.r1
  have I1 : Hid (Calls Tryz.prog 56 #[.iface 159 (.pointer (some a4)), .iface 159 (.pointer (some a1))] w fun e w' => e = .returned (.bool false) ∧ w' = w) := is_other a4 a1 _ _ _ _ w h.n14.symm ek1 ei1
  obtain ⟨ck2, tk2, ek2⟩ := h.r4
  obtain ⟨ci2, ti2, ei2⟩ := h.r2
  have I2 : Hid (Calls Tryz.prog 56 #[.iface 159 (.pointer (some a4)), .iface 159 (.pointer (some a2))] w fun e w' => e = .returned (.bool false) ∧ w' = w) := is_other a4 a2 _ _ _ _ w h.n24.symm ek2 ei2
  obtain ⟨ck3, tk3, ek3⟩ := h.r4
  obtain ⟨ci3, ti3, ei3⟩ := h.r3
  have I3 : Hid (Calls Tryz.prog 56 #[.iface 159 (.pointer (some a4)), .iface 159 (.pointer (some a3))] w fun e w' => e = .returned (.bool false) ∧ w' = w) := is_other a4 a3 _ _ _ _ w h.n34.symm ek3 ei3
  have I4 : Hid (Calls Tryz.prog 56 #[.iface 159 (.pointer (some a4)), .iface 159 (.pointer (some a4))] w fun e w' => e = .returned (.bool true) ∧ w' = w) := is_same a4 w
  clear h
  clear ek1 ei1
  clear ek2 ei2
  clear ek3 ei3
  go_enter Tryz.func27, Tryz.ntmps27
  go_wp2_with fail
  refine I1.out.mono ?_
  rintro e wx ⟨rfl, rfl⟩
  go_wp2_with fail
  refine I2.out.mono ?_
  rintro e wx ⟨rfl, rfl⟩
  go_wp2_with fail
  refine I3.out.mono ?_
  rintro e wx ⟨rfl, rfl⟩
  go_wp2_with fail
  refine I4.out.mono ?_
  rintro e wx ⟨rfl, rfl⟩
  go_wp2_with fail
  go_ret
  exact ⟨rfl, rfl⟩
theorem areaCode_wrong (c : Int) (a1 a2 a3 a4 : Addr) (w : World) (h : Sents a1 a2 a3 a4 w) (hl : Laid w) :
    Calls Tryz.prog 27 #[errV c] w fun e w' => e = .returned (.int .i64 c) ∧ Below w.heap.size w w' := by
  unfold errV
  have g1 := h.c1
  have g2 := h.c2
  have g3 := h.c3
  have g4 := h.c4
  have I1 : Hid (Calls Tryz.prog 56 #[.iface 112 (.agg #[.int .i64 c]), .iface 159 (.pointer (some a1))] w fun e w' => e = .returned (.bool false) ∧ w' = w) := is_wrong _ a1 w
  have I2 : Hid (Calls Tryz.prog 56 #[.iface 112 (.agg #[.int .i64 c]), .iface 159 (.pointer (some a2))] w fun e w' => e = .returned (.bool false) ∧ w' = w) := is_wrong _ a2 w
  have I3 : Hid (Calls Tryz.prog 56 #[.iface 112 (.agg #[.int .i64 c]), .iface 159 (.pointer (some a3))] w fun e w' => e = .returned (.bool false) ∧ w' = w) := is_wrong _ a3 w
  have I4 : Hid (Calls Tryz.prog 56 #[.iface 112 (.agg #[.int .i64 c]), .iface 159 (.pointer (some a4))] w fun e w' => e = .returned (.bool false) ∧ w' = w) := is_wrong _ a4 w
  have IC : Hid (Calls Tryz.prog 57 #[.iface 112 (.agg #[.int .i64 c])] w fun e w' => e = .returned (.int .i64 c) ∧ Below w.heap.size w w') := codeOf_hit c w hl
  clear h hl
  go_enter Tryz.func27, Tryz.ntmps27
  go_wp2_with fail
  refine I1.out.mono ?_
  rintro e wx ⟨rfl, rfl⟩
  go_wp2_with fail
  refine I2.out.mono ?_
  rintro e wx ⟨rfl, rfl⟩
  go_wp2_with fail
  refine I3.out.mono ?_
  rintro e wx ⟨rfl, rfl⟩
  go_wp2_with fail
  refine I4.out.mono ?_
  rintro e wx ⟨rfl, rfl⟩
  go_wp2_with fail
  refine IC.out.mono ?_
  rintro e wx ⟨rfl, b⟩
  go_wp2_with fail
  go_ret
  exact ⟨rfl, b⟩
end Go.Proofs.YtkhffoailfnepabGreatDoor
/-
  An error and the code that the program's areaCode makes of it; what readArea answers, as a plain statement.
-/
namespace Go.Proofs.YtkhffoailfnepabGreatDoor
open Go.RowKit Go.Lib
set_option linter.unusedVariables false

/-- An error that areaCode turns into this code. -/
def ErrIs (a1 a2 a3 a4 : Addr) (v : Value) (c : Int) : Prop :=
  (v = .iface 159 (.pointer (some a1)) ∧ c = 1) ∨ (v = .iface 159 (.pointer (some a2)) ∧ c = 3) ∨ (v = .iface 159 (.pointer (some a3)) ∧ c = 5) ∨ (v = .iface 159 (.pointer (some a4)) ∧ c = 9) ∨ v = errV c
theorem ErrIs.iface {a1 a2 a3 a4 : Addr} {v : Value} {c : Int} (h : ErrIs a1 a2 a3 a4 v c) : ∃ ty p, v = .iface ty p := by
  rcases h with ⟨rfl, -⟩ | ⟨rfl, -⟩ | ⟨rfl, -⟩ | ⟨rfl, -⟩ | rfl
  all_goals exact ⟨_, _, rfl⟩
theorem areaCode_of {a1 a2 a3 a4 : Addr} {v : Value} {c : Int} (h : ErrIs a1 a2 a3 a4 v c) (w : World) (hS : Sents a1 a2 a3 a4 w) (hl : Laid w) : Calls Tryz.prog 27 #[v] w fun e w' => e = .returned (.int .i64 c) ∧ Below w.heap.size w w' := by
  rcases h with ⟨rfl, rfl⟩ | ⟨rfl, rfl⟩ | ⟨rfl, rfl⟩ | ⟨rfl, rfl⟩ | rfl
  · exact (areaCode_1 a1 a2 a3 a4 w hS).mono (by rintro e w' ⟨rfl, rfl⟩; exact ⟨rfl, Below.refl _ _⟩)
  · exact (areaCode_2 a1 a2 a3 a4 w hS).mono (by rintro e w' ⟨rfl, rfl⟩; exact ⟨rfl, Below.refl _ _⟩)
  · exact (areaCode_3 a1 a2 a3 a4 w hS).mono (by rintro e w' ⟨rfl, rfl⟩; exact ⟨rfl, Below.refl _ _⟩)
  · exact (areaCode_4 a1 a2 a3 a4 w hS).mono (by rintro e w' ⟨rfl, rfl⟩; exact ⟨rfl, Below.refl _ _⟩)
  · exact areaCode_wrong c a1 a2 a3 a4 w hS hl
/-- What readArea answers. -/
def RaP (ss : List ByteArray) (ps : List Pnd) (a1 a2 a3 a4 : Addr) (e : Ending) : Prop :=
  ∃ (G S Z : Nat) (T : ByteArray) (v : Value), e = .returned (.tuple #[.agg #[.int .i64 (G : Int), .int .i64 (S : Int), .int .i64 (Z : Int)], .string T, v]) ∧ (arC ss ps = 0 → G = arG ss ps ∧ S = seS (readB ss ps 0) (roomN ss) ∧ T = arT ss ps ∧ v = .nilIface) ∧ (arC ss ps ≠ 0 → ErrIs a1 a2 a3 a4 v (arC ss ps))
end Go.Proofs.YtkhffoailfnepabGreatDoor
