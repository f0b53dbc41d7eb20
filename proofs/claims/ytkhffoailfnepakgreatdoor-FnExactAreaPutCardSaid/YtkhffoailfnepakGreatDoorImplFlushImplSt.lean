/-
  Parts of one proof, laid as one text: ImplFlush, ImplSt; what each says stands at its head.
-/
import Derived.Test.YtkhffoailfnepakGreatDoorRows
import Derived.Test.YtkhffoailfnepakGreatDoorBytesDigMath
import Derived.Test.YtkhffoailfnepakGreatDoorSlASlBOwnSDskMath
import Derived.Test.YtkhffoailfnepakGreatDoorDskCDskRDskS
import Derived.Test.YtkhffoailfnepakGreatDoorDskT
import Derived.Test.YtkhffoailfnepakGreatDoorDskFDskKDskLaw
import Derived.Test.YtkhffoailfnepakGreatDoorLawD
import Derived.Test.YtkhffoailfnepakGreatDoorImplDR
import Derived.Test.YtkhffoailfnepakGreatDoorImplDG
import Derived.Handy
import Derived.WalkSpells
import Derived.OwnWalk
import Derived.Test.YtkhffoailfnepakGreatDoorFourJoinedSealOwnB
import Derived.Test.YtkhffoailfnepakGreatDoorPutMathCrc
import Derived.Test.YtkhffoailfnepakGreatDoorPutNum
import Derived.Test.YtkhffoailfnepakGreatDoorAppSStepAppDskA
import Derived.Test.YtkhffoailfnepakGreatDoorDskW
import Derived.Test.YtkhffoailfnepakGreatDoorPutTextAreaAAreaF
import Derived.Deep.RegionLaw
import Derived.Deep.RegionHeld3
/-
  What the program's DiskFlush answers: as the specification's.
  Conditions: the cells of Sectors and Pending hold the texts and the pendings.
-/
namespace Go.Proofs.YtkhffoailfnepakGreatDoor
open Go.RowKit Go.Lib
set_option linter.unusedVariables false
set_option maxRecDepth 20000

set_option maxHeartbeats 4000000 in
theorem implDiskFlush_any (q1 : Option Addr) (c1 : Nat) (ss : List ByteArray) (q2 : Option Addr) (c2 : Nat) (ps : List Pnd) (w : World) (h1 : TxtAt w q1 ss) (h2 : PndAt w q2 ps) (n1 : ss.length ≤ 1048576) (n2 : ps.length ≤ 1048576) (m1 : ss.length ≤ c1) (m2 : ps.length ≤ c2) :
    Calls Tryz.prog 74 #[.agg #[.slice q1 ss.length c1, .slice q2 ps.length c2]] w fun e w' => ∃ v1, e = .returned (.agg #[v1, .slice none 0 0, .string ByteArray.empty, .int .i64 (flC ss ps)]) ∧ DskO w.heap.size (flS ss ps) [] v1 (.slice none 0 0) w' ∧ Below w.heap.size w w' := by
  obtain ⟨W2, hW2⟩ : ∃ W2, W2 = (w.alloc (.cells #[.slice q1 ss.length c1, .slice q2 ps.length c2] 29)).alloc (.cells #[.slice none 0 0, .slice none 0 0, .string ⟨#[]⟩, .int .i64 0] 49) := ⟨_, rfl⟩
  have HW2 : Hid (W2 = (w.alloc (.cells #[.slice q1 ss.length c1, .slice q2 ps.length c2] 29)).alloc (.cells #[.slice none 0 0, .slice none 0 0, .string ⟨#[]⟩, .int .i64 0] 49)) := hW2
  have hs1 : (w.alloc (.cells #[.slice q1 ss.length c1, .slice q2 ps.length c2] 29)).heap.size = w.heap.size + 1 := by simp
  have S2 : W2.heap.size = w.heap.size + 2 := by rw [hW2]; simp
  have R0 : W2.heap[w.heap.size]? = some (.cells #[.slice q1 ss.length c1, .slice q2 ps.length c2] 29 (0, 0)) := by rw [hW2]; exact (Below.heap_alloc _ _ _ (by rw [hs1]; omega)).trans (MapKept.heap_alloc w _).1
  have R1 : W2.heap[w.heap.size + 1]? = some (.cells #[.slice none 0 0, .slice none 0 0, .string ByteArray.empty, .int .i64 0] 49 (0, 0)) := by rw [hW2, ← hs1]; exact (MapKept.heap_alloc _ _).1
  have B2 : Hid (Below w.heap.size w W2) := by rw [hW2]; exact ((Below.refl _ _).alloc (Nat.le_refl _) _).alloc (by rw [hs1]; omega) _
  have T1 : Hid (TxtAt W2 q1 ss) := h1.below B2.out
  have T2 : Hid (PndAt W2 q2 ps) := h2.below B2.out
  have HX : Hid (∀ x, Below W2.heap.size W2 x → x.cell? ⟨w.heap.size, 0, none⟩ = some (.slice q1 ss.length c1) ∧ x.cell? ⟨w.heap.size, 1, none⟩ = some (.slice q2 ps.length c2)) := fun x hb => by
    have h0 := (hb.block w.heap.size (by omega)).trans R0
    simp [World.cell?, h0]
  have HR : Hid (∀ x, Below W2.heap.size W2 x → x.cell? ⟨w.heap.size + 1, 0, none⟩ = some (.slice none 0 0) ∧ x.cell? ⟨w.heap.size + 1, 1, none⟩ = some (.slice none 0 0) ∧ x.cell? ⟨w.heap.size + 1, 2, none⟩ = some (.string ByteArray.empty) ∧ x.cell? ⟨w.heap.size + 1, 3, none⟩ = some (.int .i64 0) ∧ x.frozen? ⟨w.heap.size + 1, 0, none⟩ = false ∧ x.frozen? ⟨w.heap.size + 1, 1, none⟩ = false ∧ x.frozen? ⟨w.heap.size + 1, 2, none⟩ = false ∧ x.frozen? ⟨w.heap.size + 1, 3, none⟩ = false) := fun x hb => by
    have h1 := (hb.block (w.heap.size + 1) (by omega)).trans R1
    simp [World.cell?, World.frozen?, h1]
  have hD := implDiskRight_any q1 c1 ss q2 c2 ps W2 T1.out T2.out n1 n2 m1 m2
  obtain ⟨t0, t1⟩ := HX.out W2 (Below.refl _ _)
  have HSz : Hid (W2.heap.size = w.heap.size + 2) := S2
  clear hW2 R0 R1 h1 h2 hs1 S2
  rw [HW2.out] at t0 t1
  cases hd : dskB ss ps with
  | false =>
    have hC : Hid (flC ss ps = 1 ∧ flS ss ps = []) := ⟨if_neg (by rw [hd]; exact Bool.false_ne_true), if_neg (by rw [hd]; exact Bool.false_ne_true)⟩
    rw [hd] at hD
    clear hd T1 T2
    go_enter Tryz.func74, Tryz.ntmps74
    go_wp2_with fail
    rw [← HW2.out]
    refine hD.mono ?_
    rintro e y1 ⟨rfl, b1⟩
    have HE : Hid (∀ x0 x1 x2 x3 : Value, Below w.heap.size w ((((y1.setCell ⟨w.heap.size + 1, 0, none⟩ x0).setCell ⟨w.heap.size + 1, 1, none⟩ x1).setCell ⟨w.heap.size + 1, 2, none⟩ x2).setCell ⟨w.heap.size + 1, 3, none⟩ x3)) := fun x0 x1 x2 x3 => below_set4 (chainB B2.out b1) (by omega) _ _ _ _
    obtain ⟨r0, r1, r2, r3, f0, f1, f2, f3⟩ := HR.out y1 b1
    clear b1 HR HX t0 t1
    go_wp2_with fail
    refine bodyPost_ret (v := .agg #[.slice none 0 0, .slice none 0 0, .string ByteArray.empty, .int .i64 1]) (by simp [results, Tryz.results74, go_sem, r0, r1, r2, r3]; rfl) rfl ?_
    rw [hC.out.1, hC.out.2]
    exact ⟨_, rfl, DskO.nil _ _, HE.out _ _ _ _⟩
  | true =>
  obtain ⟨⟨p1, p2⟩, p3, p4, p5⟩ := dskB_parts hd
  have HV : Hid (flC ss ps = 0 ∧ flS ss ps = flushB ss ps) := ⟨if_pos hd, if_pos hd⟩
  have H4 : Hid (∀ x ∈ ss, x.size ≤ 64) := p4
  have H5 : Hid (∀ p ∈ ps, pndOk ss.length p) := p5
  rw [hd] at hD
  clear hd p4 p5
  go_enter Tryz.func74, Tryz.ntmps74
  go_wp2_with fail
  rw [← HW2.out]
  refine hD.mono ?_
  rintro e y1 ⟨rfl, b1⟩
  obtain ⟨x0, x1⟩ := HX.out y1 b1
  clear t0 t1
  go_wp2_with fail
  refine (flushed_any q1 c1 ss q2 c2 ps y1 (T1.out.below b1) (T2.out.below b1) p1 p2 n2 m1 m2 H4.out H5.out).mono ?_
  rintro e y2 ⟨v1, rfl, ho, b2⟩
  have ho2 := ho.mono (show w.heap.size + 2 ≤ y1.heap.size by have := b1.size; have := HSz.out; omega)
  have b2 := chainB b1 b2
  obtain ⟨o1, d1, rfl, -, -⟩ := ownS_form ho2.own1
  have HE : Hid (∀ x0 x1 x2 x3 : Value, DskO w.heap.size (flushB ss ps) [] (.slice o1 (flushB ss ps).length d1) (.slice none 0 0) ((((y2.setCell ⟨w.heap.size + 1, 0, none⟩ x0).setCell ⟨w.heap.size + 1, 1, none⟩ x1).setCell ⟨w.heap.size + 1, 2, none⟩ x2).setCell ⟨w.heap.size + 1, 3, none⟩ x3) ∧ Below w.heap.size w ((((y2.setCell ⟨w.heap.size + 1, 0, none⟩ x0).setCell ⟨w.heap.size + 1, 1, none⟩ x1).setCell ⟨w.heap.size + 1, 2, none⟩ x2).setCell ⟨w.heap.size + 1, 3, none⟩ x3)) := fun x0 x1 x2 x3 => ⟨(ho2.set4 (by omega) x0 x1 x2 x3).mono (by omega), below_set4 (chainB B2.out b2) (by omega) _ _ _ _⟩
  obtain ⟨r0, r1, r2, r3, f0, f1, f2, f3⟩ := HR.out y2 b2
  clear b1 b2 HR HX ho ho2 x0 x1
  go_wp2_with fail
  refine bodyPost_ret (v := .agg #[.slice o1 (flushB ss ps).length d1, .slice none 0 0, .string ByteArray.empty, .int .i64 0]) (by simp [results, Tryz.results74, go_sem, r0, r1, r2, r3]; rfl) rfl ?_
  rw [HV.out.1, HV.out.2]
  exact ⟨_, rfl, HE.out _ _ _ _⟩
end Go.Proofs.YtkhffoailfnepakGreatDoor
/-
  What the program's steps of the disk answer: (areaHead).text, headSteps, (areaStep).doneTo, allDoneTo.
  Conditions: the cells hold the texts, the pendings and the steps.
-/
namespace Go.Proofs.YtkhffoailfnepakGreatDoor
open Go.RowKit Go.Lib
set_option linter.unusedVariables false
set_option maxRecDepth 20000

theorem cat_three (a b c : ByteArray) : cat [a, b, c] = a ++ b ++ c := by
  apply ByteArray.ext; apply Array.ext'
  simp [cat]
set_option maxHeartbeats 2000000 in
theorem headText_any (g s z : Int) (w : World) (g0 : -9223372036854775808 ≤ g) (g1 : g ≤ 9223372036854775807) (s0 : -9223372036854775808 ≤ s) (s1 : s ≤ 9223372036854775807) (z0 : -9223372036854775808 ≤ z) (z1 : z ≤ 9223372036854775807) :
    Calls Tryz.prog 68 #[.agg #[.int .i64 g, .int .i64 s, .int .i64 z]] w fun e w' => e = .returned (.string (headB g s z)) ∧ Below w.heap.size w w' := by
  obtain ⟨W1, hW1⟩ : ∃ W1, W1 = w.alloc (.cells #[.int .i64 g, .int .i64 s, .int .i64 z] 85) := ⟨_, rfl⟩
  have HW1 : Hid (W1 = w.alloc (.cells #[.int .i64 g, .int .i64 s, .int .i64 z] 85)) := hW1
  have B1 : Hid (Below w.heap.size w W1) := by rw [hW1]; exact (Below.refl _ _).alloc (Nat.le_refl _) _
  have K1 : Hid (Bxs W1 w.heap.size 85 #[.int .i64 g, .int .i64 s, .int .i64 z]) := by rw [hW1]; exact Bxs.new _ _ _
  have tg := putB_ten g
  have ts := putB_ten s
  have tz := putB_ten z
  have HX : Hid (∀ x, Below W1.heap.size W1 x → x.cell? ⟨w.heap.size, 0, none⟩ = some (.int .i64 g) ∧ x.cell? ⟨w.heap.size, 1, none⟩ = some (.int .i64 s) ∧ x.cell? ⟨w.heap.size, 2, none⟩ = some (.int .i64 z)) := fun x hb => ⟨(K1.out.below hb).cell 0, (K1.out.below hb).cell 1, (K1.out.below hb).cell 2⟩
  have QP : ∀ (n : Int), -9223372036854775808 ≤ n → n ≤ 9223372036854775807 → ∀ x, Below W1.heap.size W1 x → Calls Tryz.prog 80 #[.int .i64 n] x fun e x1 => e = .returned (.string (putB n)) ∧ Below W1.heap.size W1 x1 := fun n h0 h1 x hb => (implPutNum_any n x h0 h1).mono (by rintro e x1 ⟨rfl, b⟩; exact ⟨rfl, chainB hb b⟩)
  have QG : Hid (∀ x, Below W1.heap.size W1 x → Calls Tryz.prog 80 #[.int .i64 g] x fun e x1 => e = .returned (.string (putB g)) ∧ Below W1.heap.size W1 x1) := QP g g0 g1
  have QS : Hid (∀ x, Below W1.heap.size W1 x → Calls Tryz.prog 80 #[.int .i64 s] x fun e x1 => e = .returned (.string (putB s)) ∧ Below W1.heap.size W1 x1) := QP s s0 s1
  have QZ : Hid (∀ x, Below W1.heap.size W1 x → Calls Tryz.prog 80 #[.int .i64 z] x fun e x1 => e = .returned (.string (putB z)) ∧ Below W1.heap.size W1 x1) := QP z z0 z1
  have QJ : Hid (∀ x, Below W1.heap.size W1 x → Calls Tryz.prog 72 #[.slice (some ⟨x.heap.size, 0, none⟩) 3 3] (x.alloc (.cells #[.string (putB g), .string (putB s), .string (putB z)] 9)) fun e x1 => e = .returned (.string (putB g ++ putB s ++ putB z)) ∧ Below W1.heap.size W1 x1) := fun x hb => by
    have h := joined_new [putB g, putB s, putB z] x (by simp) (by rw [cat_three, ByteArray.size_append, ByteArray.size_append]; omega)
    rw [cat_three] at h
    refine h.mono ?_
    rintro e x1 ⟨rfl, b⟩
    exact ⟨rfl, chainB hb b⟩
  have QJ2 : Hid (∀ x, Below W1.heap.size W1 x → Calls Tryz.prog 72 #[.slice (some ⟨x.heap.size, 0, none⟩) 3 3] (x.alloc (.cells #[.string (putB g), .string (putB s), .string (putB z)] 9)).drew fun e x1 => e = .returned (.string (putB g ++ putB s ++ putB z)) ∧ Below W1.heap.size W1 x1) := fun x hb => QJ.out x.drew hb.drew
  have QE : Hid (∀ x, Below W1.heap.size W1 x → Calls Tryz.prog 79 #[.string (putB g ++ putB s ++ putB z)] x fun e x1 => e = .returned (.string (headB g s z)) ∧ Below W1.heap.size W1 x1) := fun x hb => (implSeal_any (putB g ++ putB s ++ putB z) x (by unfold maxLen; rw [ByteArray.size_append, ByteArray.size_append]; omega)).mono (by rintro e x1 ⟨rfl, b⟩; exact ⟨rfl, chainB hb b⟩)
  have HR : Hid (Below W1.heap.size W1 W1) := Below.refl _ _
  obtain ⟨u0, u1, u2⟩ := HX.out W1 HR.out
  have HSz : Hid (W1.heap.size = w.heap.size + 1) := by rw [hW1]; exact show _ = _ by simp
  clear QP tg ts tz K1 g0 g1 s0 s1 z0 z1
  generalize headB g s z = HT at *
  clear hW1
  go_enter Tryz.func68, Tryz.ntmps68
  go_wp2_with fail
  rw [← HW1.out]
  first
    | (go_region_held3 (fun w' => w'.cell? ⟨w.heap.size, 0, none⟩ = some (.int .i64 g) ∧ w'.cell? ⟨w.heap.size, 1, none⟩ = some (.int .i64 s) ∧ w'.cell? ⟨w.heap.size, 2, none⟩ = some (.int .i64 z)) ((refine HX.out _ ?hT; (case hT => (with_reducible repeat (first | assumption | exact HR.out | refine Below.drew ?_ | refine alB ?_ _))))) (first
      | (go_at_call 80; with_reducible refine (QG.out _ ?hB).mono ?_; (case hB => first | exact HR.out | exact HR.out.drew); rintro e x1 ⟨rfl, y1⟩)
      | (go_at_call 80; with_reducible refine (QS.out _ ?hB).mono ?_; (case hB => first | exact y1 | exact y1.drew); rintro e x2 ⟨rfl, y2⟩)
      | (go_at_call 80; with_reducible refine (QZ.out _ ?hB).mono ?_; (case hB => first | exact y2 | exact y2.drew); rintro e x3 ⟨rfl, y3⟩)
      | (go_at_call 72; (first | with_reducible refine (QJ.out _ ?hB).mono ?_ | with_reducible refine (QJ2.out _ ?hB).mono ?_); (case hB => first | exact y3 | exact y3.drew); rintro e x4 ⟨rfl, y4⟩)
      | (go_at_call 79; with_reducible refine (QE.out _ ?hB).mono ?_; (case hB => first | exact y4 | exact y4.drew); rintro e x5 ⟨rfl, y5⟩)))
    | fail
  all_goals
    have y6 := chainB B1.out y5
    go_wp2_with fail
    go_ret
    exact ⟨rfl, y6⟩
end Go.Proofs.YtkhffoailfnepakGreatDoor
