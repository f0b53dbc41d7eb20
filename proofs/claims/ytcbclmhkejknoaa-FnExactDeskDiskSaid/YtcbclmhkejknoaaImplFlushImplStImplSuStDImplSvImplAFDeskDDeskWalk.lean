/-
  Parts of one proof, laid as one text: ImplFlush, ImplSt, ImplSu, StD, ImplSv, ImplAF, DeskD, DeskWalk; what each says stands at its head.
-/
import Derived.Test.YtcbclmhkejknoaaRows
import Derived.Test.YtcbclmhkejknoaaBytes
import Derived.Test.YtcbclmhkejknoaaSlA
import Derived.Test.YtcbclmhkejknoaaSlB
import Derived.Test.YtcbclmhkejknoaaOwnS
import Derived.Test.YtcbclmhkejknoaaDskMath
import Derived.Test.YtcbclmhkejknoaaDskC
import Derived.Test.YtcbclmhkejknoaaDskT
import Derived.Test.YtcbclmhkejknoaaDskF
import Derived.Test.YtcbclmhkejknoaaLawD
import Derived.Test.YtcbclmhkejknoaaImplDR
import Derived.Test.YtcbclmhkejknoaaImplDG
import Derived.Handy
import Derived.WalkSpells
import Derived.OwnWalk
import Derived.Test.YtcbclmhkejknoaaJoined
import Derived.Test.YtcbclmhkejknoaaPutMath
import Derived.Test.YtcbclmhkejknoaaPutNum
import Derived.Test.YtcbclmhkejknoaaSeal
import Derived.Test.YtcbclmhkejknoaaDskA
import Derived.Test.YtcbclmhkejknoaaDskW
import Derived.Test.YtcbclmhkejknoaaAreaA
import Derived.Deep.RegionLaw
import Derived.Deep.RegionHeld3
import Derived.Test.YtcbclmhkejknoaaStpMath
import Derived.Test.YtcbclmhkejknoaaImplDC
import Derived.Test.YtcbclmhkejknoaaImplDW
import Derived.Test.YtcbclmhkejknoaaAreaF
import Derived.Test.YtcbclmhkejknoaaAreaFm
import Derived.Test.YtcbclmhkejknoaaBxK
import Derived.Test.YtcbclmhkejknoaaDskS
import Derived.Test.YtcbclmhkejknoaaOwnB
import Derived.Test.YtcbclmhkejknoaaLawS
import Derived.Test.YtcbclmhkejknoaaLawM
import Derived.Test.YtcbclmhkejknoaaLawMG
import Derived.Test.YtcbclmhkejknoaaLawP
import Derived.Test.YtcbclmhkejknoaaLawPM
import Derived.Test.YtcbclmhkejknoaaLawDM
import Derived.Test.YtcbclmhkejknoaaGrTwo
import Derived.Test.YtcbclmhkejknoaaLawDG
/-
  What the program's DiskFlush answers: as the specification's.
  Conditions: the cells of Sectors and Pending hold the texts and the pendings.
-/
namespace Go.Proofs.Ytcbclmhkejknoaa
open Go.RowKit Go.Lib
set_option linter.unusedVariables false
set_option maxRecDepth 20000

set_option maxHeartbeats 4000000 in
theorem implDiskFlush_any (q1 : Option Addr) (c1 : Nat) (ss : List ByteArray) (q2 : Option Addr) (c2 : Nat) (ps : List Pnd) (w : World) (h1 : TxtAt w q1 ss) (h2 : PndAt w q2 ps) (n1 : ss.length ≤ 1048576) (n2 : ps.length ≤ 1048576) (m1 : ss.length ≤ c1) (m2 : ps.length ≤ c2) :
    Calls Try.prog 43 #[.agg #[.slice q1 ss.length c1, .slice q2 ps.length c2]] w fun e w' => ∃ v1, e = .returned (.agg #[v1, .slice none 0 0, .string ByteArray.empty, .int .i64 (flC ss ps)]) ∧ DskO w.heap.size (flS ss ps) [] v1 (.slice none 0 0) w' ∧ Below w.heap.size w w' := by
  obtain ⟨W2, hW2⟩ : ∃ W2, W2 = (w.alloc (.cells #[.slice q1 ss.length c1, .slice q2 ps.length c2] 25)).alloc (.cells #[.slice none 0 0, .slice none 0 0, .string ⟨#[]⟩, .int .i64 0] 41) := ⟨_, rfl⟩
  have HW2 : Hid (W2 = (w.alloc (.cells #[.slice q1 ss.length c1, .slice q2 ps.length c2] 25)).alloc (.cells #[.slice none 0 0, .slice none 0 0, .string ⟨#[]⟩, .int .i64 0] 41)) := hW2
  have hs1 : (w.alloc (.cells #[.slice q1 ss.length c1, .slice q2 ps.length c2] 25)).heap.size = w.heap.size + 1 := by simp
  have S2 : W2.heap.size = w.heap.size + 2 := by rw [hW2]; simp
  have R0 : W2.heap[w.heap.size]? = some (.cells #[.slice q1 ss.length c1, .slice q2 ps.length c2] 25 (0, 0)) := by rw [hW2]; exact (Below.heap_alloc _ _ _ (by rw [hs1]; omega)).trans (MapKept.heap_alloc w _).1
  have R1 : W2.heap[w.heap.size + 1]? = some (.cells #[.slice none 0 0, .slice none 0 0, .string ByteArray.empty, .int .i64 0] 41 (0, 0)) := by rw [hW2, ← hs1]; exact (MapKept.heap_alloc _ _).1
  have B2 : Hid (Below w.heap.size w W2) := by rw [hW2]; exact ((Below.refl _ _).alloc (Nat.le_refl _) _).alloc (by rw [hs1]; omega) _
  have T1 : Hid (TxtAt W2 q1 ss) := h1.below B2.out
  have T2 : Hid (PndAt W2 q2 ps) := h2.below B2.out
  have HX : Hid (∀ x, Below W2.heap.size W2 x → x.cell? ⟨w.heap.size, 0, none⟩ = some (.slice q1 ss.length c1) ∧ x.cell? ⟨w.heap.size, 1, none⟩ = some (.slice q2 ps.length c2)) := fun x hb => by
    have h0 := (hb.block w.heap.size (by omega)).trans R0
    simp [World.cell?, h0]
  have HR : Hid (∀ x, Below W2.heap.size W2 x → x.cell? ⟨w.heap.size + 1, 0, none⟩ = some (.slice none 0 0) ∧ x.cell? ⟨w.heap.size + 1, 1, none⟩ = some (.slice none 0 0) ∧ x.cell? ⟨w.heap.size + 1, 2, none⟩ = some (.string ByteArray.empty) ∧ x.cell? ⟨w.heap.size + 1, 3, none⟩ = some (.int .i64 0) ∧ x.frozen? ⟨w.heap.size + 1, 0, none⟩ = false ∧ x.frozen? ⟨w.heap.size + 1, 1, none⟩ = false ∧ x.frozen? ⟨w.heap.size + 1, 2, none⟩ = false ∧ x.frozen? ⟨w.heap.size + 1, 3, none⟩ = false) := fun x hb => by
    have h1 := (hb.block (w.heap.size + 1) (by omega)).trans R1
    simp [World.cell?, World.frozen?, h1]
  have hD := implDiskRight_any q1 c1 ss q2 c2 ps W2 T1.out T2.out n1 n2 m1 m2
  obtain ⟨t0, t1⟩ := HX.out W2 (Below.refl _ _)
  have HSz : Hid (W2.heap.size = w.heap.size + 2) := S2
  clear hW2 R0 R1 h1 h2 hs1 S2
  rw [HW2.out] at t0 t1
  cases hd : dskB ss ps with
  | false =>
    have hC : Hid (flC ss ps = 1 ∧ flS ss ps = []) := ⟨if_neg (by rw [hd]; exact Bool.false_ne_true), if_neg (by rw [hd]; exact Bool.false_ne_true)⟩
    rw [hd] at hD
    clear hd T1 T2
    go_enter Try.func43, Try.ntmps43
    go_wp2_with fail
    rw [← HW2.out]
    refine hD.mono ?_
    rintro e y1 ⟨rfl, b1⟩
    have HE : Hid (∀ x0 x1 x2 x3 : Value, Below w.heap.size w ((((y1.setCell ⟨w.heap.size + 1, 0, none⟩ x0).setCell ⟨w.heap.size + 1, 1, none⟩ x1).setCell ⟨w.heap.size + 1, 2, none⟩ x2).setCell ⟨w.heap.size + 1, 3, none⟩ x3)) := fun x0 x1 x2 x3 => below_set4 (chainB B2.out b1) (by omega) _ _ _ _
    obtain ⟨r0, r1, r2, r3, f0, f1, f2, f3⟩ := HR.out y1 b1
    clear b1 HR HX t0 t1
    go_wp2_with fail
    refine bodyPost_ret (v := .agg #[.slice none 0 0, .slice none 0 0, .string ByteArray.empty, .int .i64 1]) (by simp [results, Try.results43, go_sem, r0, r1, r2, r3]; rfl) rfl ?_
    rw [hC.out.1, hC.out.2]
    exact ⟨_, rfl, DskO.nil _ _, HE.out _ _ _ _⟩
  | true =>
  obtain ⟨⟨p1, p2⟩, p3, p4, p5⟩ := dskB_parts hd
  have HV : Hid (flC ss ps = 0 ∧ flS ss ps = flushB ss ps) := ⟨if_pos hd, if_pos hd⟩
  have H4 : Hid (∀ x ∈ ss, x.size ≤ 64) := p4
  have H5 : Hid (∀ p ∈ ps, pndOk ss.length p) := p5
  rw [hd] at hD
  clear hd p4 p5
  go_enter Try.func43, Try.ntmps43
  go_wp2_with fail
  rw [← HW2.out]
  refine hD.mono ?_
  rintro e y1 ⟨rfl, b1⟩
  obtain ⟨x0, x1⟩ := HX.out y1 b1
  clear t0 t1
  go_wp2_with fail
  refine (flushed_any q1 c1 ss q2 c2 ps y1 (T1.out.below b1) (T2.out.below b1) p1 p2 n2 m1 m2 H4.out H5.out).mono ?_
  rintro e y2 ⟨v1, rfl, ho, b2⟩
  have ho2 := ho.mono (show w.heap.size + 2 ≤ y1.heap.size by have := b1.size; have := HSz.out; omega)
  have b2 := chainB b1 b2
  obtain ⟨o1, d1, rfl, -, -⟩ := ownS_form ho2.own1
  have HE : Hid (∀ x0 x1 x2 x3 : Value, DskO w.heap.size (flushB ss ps) [] (.slice o1 (flushB ss ps).length d1) (.slice none 0 0) ((((y2.setCell ⟨w.heap.size + 1, 0, none⟩ x0).setCell ⟨w.heap.size + 1, 1, none⟩ x1).setCell ⟨w.heap.size + 1, 2, none⟩ x2).setCell ⟨w.heap.size + 1, 3, none⟩ x3) ∧ Below w.heap.size w ((((y2.setCell ⟨w.heap.size + 1, 0, none⟩ x0).setCell ⟨w.heap.size + 1, 1, none⟩ x1).setCell ⟨w.heap.size + 1, 2, none⟩ x2).setCell ⟨w.heap.size + 1, 3, none⟩ x3)) := fun x0 x1 x2 x3 => ⟨(ho2.set4 (by omega) x0 x1 x2 x3).mono (by omega), below_set4 (chainB B2.out b2) (by omega) _ _ _ _⟩
  obtain ⟨r0, r1, r2, r3, f0, f1, f2, f3⟩ := HR.out y2 b2
  clear b1 b2 HR HX ho ho2 x0 x1
  go_wp2_with fail
  refine bodyPost_ret (v := .agg #[.slice o1 (flushB ss ps).length d1, .slice none 0 0, .string ByteArray.empty, .int .i64 0]) (by simp [results, Try.results43, go_sem, r0, r1, r2, r3]; rfl) rfl ?_
  rw [HV.out.1, HV.out.2]
  exact ⟨_, rfl, HE.out _ _ _ _⟩
end Go.Proofs.Ytcbclmhkejknoaa
/-
  What the program's steps of the disk answer: (areaHead).text, headSteps, (areaStep).doneTo, allDoneTo.
  Conditions: the cells hold the texts, the pendings and the steps.
-/
namespace Go.Proofs.Ytcbclmhkejknoaa
open Go.RowKit Go.Lib
set_option linter.unusedVariables false
set_option maxRecDepth 20000

theorem cat_three (a b c : ByteArray) : cat [a, b, c] = a ++ b ++ c := by
  apply ByteArray.ext; apply Array.ext'
  simp [cat]
set_option maxHeartbeats 2000000 in
theorem headText_any (g s z : Int) (w : World) (g0 : -9223372036854775808 ≤ g) (g1 : g ≤ 9223372036854775807) (s0 : -9223372036854775808 ≤ s) (s1 : s ≤ 9223372036854775807) (z0 : -9223372036854775808 ≤ z) (z1 : z ≤ 9223372036854775807) :
    Calls Try.prog 37 #[.agg #[.int .i64 g, .int .i64 s, .int .i64 z]] w fun e w' => e = .returned (.string (headB g s z)) ∧ Below w.heap.size w w' := by
  obtain ⟨W1, hW1⟩ : ∃ W1, W1 = w.alloc (.cells #[.int .i64 g, .int .i64 s, .int .i64 z] 50) := ⟨_, rfl⟩
  have HW1 : Hid (W1 = w.alloc (.cells #[.int .i64 g, .int .i64 s, .int .i64 z] 50)) := hW1
  have B1 : Hid (Below w.heap.size w W1) := by rw [hW1]; exact (Below.refl _ _).alloc (Nat.le_refl _) _
  have K1 : Hid (Bxs W1 w.heap.size 50 #[.int .i64 g, .int .i64 s, .int .i64 z]) := by rw [hW1]; exact Bxs.new _ _ _
  have tg := putB_ten g
  have ts := putB_ten s
  have tz := putB_ten z
  have HX : Hid (∀ x, Below W1.heap.size W1 x → x.cell? ⟨w.heap.size, 0, none⟩ = some (.int .i64 g) ∧ x.cell? ⟨w.heap.size, 1, none⟩ = some (.int .i64 s) ∧ x.cell? ⟨w.heap.size, 2, none⟩ = some (.int .i64 z)) := fun x hb => ⟨(K1.out.below hb).cell 0, (K1.out.below hb).cell 1, (K1.out.below hb).cell 2⟩
  have QP : ∀ (n : Int), -9223372036854775808 ≤ n → n ≤ 9223372036854775807 → ∀ x, Below W1.heap.size W1 x → Calls Try.prog 46 #[.int .i64 n] x fun e x1 => e = .returned (.string (putB n)) ∧ Below W1.heap.size W1 x1 := fun n h0 h1 x hb => (implPutNum_any n x h0 h1).mono (by rintro e x1 ⟨rfl, b⟩; exact ⟨rfl, chainB hb b⟩)
  have QG : Hid (∀ x, Below W1.heap.size W1 x → Calls Try.prog 46 #[.int .i64 g] x fun e x1 => e = .returned (.string (putB g)) ∧ Below W1.heap.size W1 x1) := QP g g0 g1
  have QS : Hid (∀ x, Below W1.heap.size W1 x → Calls Try.prog 46 #[.int .i64 s] x fun e x1 => e = .returned (.string (putB s)) ∧ Below W1.heap.size W1 x1) := QP s s0 s1
  have QZ : Hid (∀ x, Below W1.heap.size W1 x → Calls Try.prog 46 #[.int .i64 z] x fun e x1 => e = .returned (.string (putB z)) ∧ Below W1.heap.size W1 x1) := QP z z0 z1
  have QJ : Hid (∀ x, Below W1.heap.size W1 x → Calls Try.prog 41 #[.slice (some ⟨x.heap.size, 0, none⟩) 3 3] (x.alloc (.cells #[.string (putB g), .string (putB s), .string (putB z)] 9)) fun e x1 => e = .returned (.string (putB g ++ putB s ++ putB z)) ∧ Below W1.heap.size W1 x1) := fun x hb => by
    have h := joined_new [putB g, putB s, putB z] x (by simp) (by rw [cat_three, ByteArray.size_append, ByteArray.size_append]; omega)
    rw [cat_three] at h
    refine h.mono ?_
    rintro e x1 ⟨rfl, b⟩
    exact ⟨rfl, chainB hb b⟩
  have QJ2 : Hid (∀ x, Below W1.heap.size W1 x → Calls Try.prog 41 #[.slice (some ⟨x.heap.size, 0, none⟩) 3 3] (x.alloc (.cells #[.string (putB g), .string (putB s), .string (putB z)] 9)).drew fun e x1 => e = .returned (.string (putB g ++ putB s ++ putB z)) ∧ Below W1.heap.size W1 x1) := fun x hb => QJ.out x.drew hb.drew
  have QE : Hid (∀ x, Below W1.heap.size W1 x → Calls Try.prog 45 #[.string (putB g ++ putB s ++ putB z)] x fun e x1 => e = .returned (.string (headB g s z)) ∧ Below W1.heap.size W1 x1) := fun x hb => (implSeal_any (putB g ++ putB s ++ putB z) x (by unfold maxLen; rw [ByteArray.size_append, ByteArray.size_append]; omega)).mono (by rintro e x1 ⟨rfl, b⟩; exact ⟨rfl, chainB hb b⟩)
  have HR : Hid (Below W1.heap.size W1 W1) := Below.refl _ _
  obtain ⟨u0, u1, u2⟩ := HX.out W1 HR.out
  have HSz : Hid (W1.heap.size = w.heap.size + 1) := by rw [hW1]; exact show _ = _ by simp
  clear QP tg ts tz K1 g0 g1 s0 s1 z0 z1
  generalize headB g s z = HT at *
  clear hW1
  go_enter Try.func37, Try.ntmps37
  go_wp2_with fail
  rw [← HW1.out]
  first
    | (go_region_held3 (fun w' => w'.cell? ⟨w.heap.size, 0, none⟩ = some (.int .i64 g) ∧ w'.cell? ⟨w.heap.size, 1, none⟩ = some (.int .i64 s) ∧ w'.cell? ⟨w.heap.size, 2, none⟩ = some (.int .i64 z)) ((refine HX.out _ ?hT; (case hT => (with_reducible repeat (first | assumption | exact HR.out | refine Below.drew ?_ | refine alB ?_ _))))) (first
      | (go_at_call 46; with_reducible refine (QG.out _ ?hB).mono ?_; (case hB => first | exact HR.out | exact HR.out.drew); rintro e x1 ⟨rfl, y1⟩)
      | (go_at_call 46; with_reducible refine (QS.out _ ?hB).mono ?_; (case hB => first | exact y1 | exact y1.drew); rintro e x2 ⟨rfl, y2⟩)
      | (go_at_call 46; with_reducible refine (QZ.out _ ?hB).mono ?_; (case hB => first | exact y2 | exact y2.drew); rintro e x3 ⟨rfl, y3⟩)
      | (go_at_call 41; (first | with_reducible refine (QJ.out _ ?hB).mono ?_ | with_reducible refine (QJ2.out _ ?hB).mono ?_); (case hB => first | exact y3 | exact y3.drew); rintro e x4 ⟨rfl, y4⟩)
      | (go_at_call 45; with_reducible refine (QE.out _ ?hB).mono ?_; (case hB => first | exact y4 | exact y4.drew); rintro e x5 ⟨rfl, y5⟩)))
    | fail
  all_goals
    have y6 := chainB B1.out y5
    go_wp2_with fail
    go_ret
    exact ⟨rfl, y6⟩
end Go.Proofs.Ytcbclmhkejknoaa
/-
  What the program's steps of the disk answer: headSteps, (areaStep).doneTo, allDoneTo.
  Conditions: the cells hold the texts, the pendings and the steps; the disk is right.
-/
namespace Go.Proofs.Ytcbclmhkejknoaa
open Go.RowKit Go.Lib
set_option linter.unusedVariables false
set_option maxRecDepth 20000

set_option maxHeartbeats 1000000 in
theorem headSteps_any (g s z : Int) (w : World) (g0 : -9223372036854775808 ≤ g) (g1 : g ≤ 9223372036854775807) (s0 : -9223372036854775808 ≤ s) (s1 : s ≤ 9223372036854775807) (z0 : -9223372036854775808 ≤ z) (z1 : z ≤ 9223372036854775807) :
    Calls Try.prog 27 #[.agg #[.int .i64 g, .int .i64 s, .int .i64 z]] w fun e w' => ∃ b, w.heap.size ≤ b ∧ e = .returned (.slice (some ⟨b, 0, none⟩) 2 2) ∧ w'.heap[b]? = some (.cells #[.bool false, .int .i64 0, .string (headB g s z), .bool true, .int .i64 0, .string ByteArray.empty] 61 (0, 0)) ∧ Below w.heap.size w w' := by
  obtain ⟨W1, hW1⟩ : ∃ W1, W1 = w.alloc (.cells #[.int .i64 g, .int .i64 s, .int .i64 z] 50) := ⟨_, rfl⟩
  have HW1 : Hid (W1 = w.alloc (.cells #[.int .i64 g, .int .i64 s, .int .i64 z] 50)) := hW1
  have B1 : Below w.heap.size w W1 := by rw [hW1]; exact (Below.refl _ _).alloc (Nat.le_refl _) _
  have H1 := headText_any g s z W1 g0 g1 s0 s1 z0 z1
  generalize headB g s z = HT at *
  clear hW1
  go_enter Try.func27, Try.ntmps27
  go_wp2_with fail
  rw [← HW1.out]
  refine H1.mono ?_
  rintro e w2 ⟨rfl, b2⟩
  have B2 := chainB B1 b2
  have HE : Hid (Below w.heap.size w (w2.alloc (.cells #[.bool false, .int .i64 0, .string HT, .bool true, .int .i64 0, .string ⟨#[]⟩] 61))) := alB B2 _
  have HS : Hid (w.heap.size ≤ w2.heap.size) := B2.size
  clear B2 b2 B1 H1
  go_wp2_with fail
  go_ret
  exact ⟨_, HS.out, rfl, (MapKept.heap_alloc w2 _).1, HE.out⟩

def rawC (ss : List ByteArray) (ps : List Pnd) (sf : Bool) (sa : Nat) (st : ByteArray) : Int := if sf = true then flC ss ps else wrC ss ps (sa : Int) st
def rawS (ss : List ByteArray) (ps : List Pnd) (sf : Bool) (sa : Nat) (st : ByteArray) : List ByteArray := if sf = true then flS ss ps else wrS ss ps (sa : Int) st
def rawP (ss : List ByteArray) (ps : List Pnd) (sf : Bool) (sa : Nat) (st : ByteArray) : List Pnd := if sf = true then [] else wrP ss ps (sa : Int) st
set_option maxHeartbeats 2000000 in
theorem doneTo_raw (sf : Bool) (sa : Nat) (st : ByteArray) (q1 : Option Addr) (c1 : Nat) (ss : List ByteArray) (q2 : Option Addr) (c2 : Nat) (ps : List Pnd) (w : World) (h1 : TxtAt w q1 ss) (h2 : PndAt w q2 ps) (n1 : ss.length ≤ 1048576) (n2 : ps.length ≤ 1048576) (m1 : ss.length ≤ c1) (m2 : ps.length ≤ c2) (hs : st.size ≤ 1048576) :
    Calls Try.prog 36 #[.agg #[.bool sf, .int .i64 (sa : Int), .string st], .agg #[.slice q1 ss.length c1, .slice q2 ps.length c2]] w fun e w' => ∃ v1 v2, e = .returned (.agg #[v1, v2, .string ByteArray.empty, .int .i64 (rawC ss ps sf sa st)]) ∧ DskO w.heap.size (rawS ss ps sf sa st) (rawP ss ps sf sa st) v1 v2 w' ∧ Below w.heap.size w w' := by
  obtain ⟨W1, hW1⟩ : ∃ W1, W1 = w.alloc (.cells #[.bool sf, .int .i64 (sa : Int), .string st] 61) := ⟨_, rfl⟩
  obtain ⟨W2, hW2⟩ : ∃ W2, W2 = W1.alloc (.cells #[.slice q1 ss.length c1, .slice q2 ps.length c2] 25) := ⟨_, rfl⟩
  obtain ⟨W3, hW3⟩ : ∃ W3, W3 = W2.alloc (.cells #[.slice none 0 0, .slice none 0 0, .string ⟨#[]⟩, .int .i64 0] 41) := ⟨_, rfl⟩
  have HW3 : Hid (W3 = ((w.alloc (.cells #[.bool sf, .int .i64 (sa : Int), .string st] 61)).alloc (.cells #[.slice q1 ss.length c1, .slice q2 ps.length c2] 25)).alloc (.cells #[.slice none 0 0, .slice none 0 0, .string ⟨#[]⟩, .int .i64 0] 41)) := by rw [hW3, hW2, hW1]; exact rfl
  have S1 : W1.heap.size = w.heap.size + 1 := by rw [hW1]; simp
  have S2 : W2.heap.size = w.heap.size + 2 := by rw [hW2]; simp [S1]
  have S3 : W3.heap.size = w.heap.size + 3 := by rw [hW3]; simp [S2]
  have B1 : Below w.heap.size w W1 := by rw [hW1]; exact (Below.refl _ _).alloc (Nat.le_refl _) _
  have B2 : Below w.heap.size w W2 := by rw [hW2]; exact alB B1 _
  have B3 : Hid (Below w.heap.size w W3) := by rw [hW3]; exact alB B2 _
  have K1 : Bxs W1 w.heap.size 61 #[.bool sf, .int .i64 (sa : Int), .string st] := by rw [hW1]; exact Bxs.new _ _ _
  have K2 : Bxs W2 (w.heap.size + 1) 25 #[.slice q1 ss.length c1, .slice q2 ps.length c2] := by rw [hW2, ← S1]; exact Bxs.new _ _ _
  have K13 : Bxs W3 w.heap.size 61 #[.bool sf, .int .i64 (sa : Int), .string st] := by rw [hW3, hW2]; exact (K1.alloc _).alloc _
  have K23 : Bxs W3 (w.heap.size + 1) 25 #[.slice q1 ss.length c1, .slice q2 ps.length c2] := by rw [hW3]; exact K2.alloc _
  have K33 : Bxs W3 (w.heap.size + 2) 41 #[.slice none 0 0, .slice none 0 0, .string ByteArray.empty, .int .i64 0] := by rw [hW3, ← S2]; exact Bxs.new _ _ _
  have T1 := h1.below B3.out
  have T2 := h2.below B3.out
  have HR : Hid (∀ x, Below W3.heap.size W3 x → x.cell? ⟨w.heap.size + 2, 0, none⟩ = some (.slice none 0 0) ∧ x.cell? ⟨w.heap.size + 2, 1, none⟩ = some (.slice none 0 0) ∧ x.cell? ⟨w.heap.size + 2, 2, none⟩ = some (.string ByteArray.empty) ∧ x.cell? ⟨w.heap.size + 2, 3, none⟩ = some (.int .i64 0) ∧ x.frozen? ⟨w.heap.size + 2, 0, none⟩ = false ∧ x.frozen? ⟨w.heap.size + 2, 1, none⟩ = false ∧ x.frozen? ⟨w.heap.size + 2, 2, none⟩ = false ∧ x.frozen? ⟨w.heap.size + 2, 3, none⟩ = false) := fun x hb => by
    have k := K33.below hb
    exact ⟨k.cell 0, k.cell 1, k.cell 2, k.cell 3, k.fr 0, k.fr 1, k.fr 2, k.fr 3⟩
  have HQ : Hid (∀ (y : World) (p1 : Option Addr) (d1 : Nat) (p2 : Option Addr) (d2 : Nat) (RS : List ByteArray) (RP : List Pnd) (x0 x1 x2 x3 : Value), DskO W3.heap.size RS RP (.slice p1 RS.length d1) (.slice p2 RP.length d2) y → Below W3.heap.size W3 y → DskO w.heap.size RS RP (.slice p1 RS.length d1) (.slice p2 RP.length d2) ((((y.setCell ⟨w.heap.size + 2, 0, none⟩ x0).setCell ⟨w.heap.size + 2, 1, none⟩ x1).setCell ⟨w.heap.size + 2, 2, none⟩ x2).setCell ⟨w.heap.size + 2, 3, none⟩ x3) ∧ Below w.heap.size w ((((y.setCell ⟨w.heap.size + 2, 0, none⟩ x0).setCell ⟨w.heap.size + 2, 1, none⟩ x1).setCell ⟨w.heap.size + 2, 2, none⟩ x2).setCell ⟨w.heap.size + 2, 3, none⟩ x3)) := by
    intro y p1 d1 p2 d2 RS RP x0 x1 x2 x3 ho hb
    exact ⟨(ho.set4 (by omega) x0 x1 x2 x3).mono (by omega), below_set4 (chainB B3.out hb) (by omega) _ _ _ _⟩
  have a0 := K13.cell 0
  have a1 := K13.cell 1
  have a2 := K13.cell 2
  have a3 := K23.cell 0
  have a4 := K23.cell 1
  rw [HW3.out] at a0 a1 a2 a3 a4
  clear K1 K2 K13 K23 K33 B1 B2 hW1 hW2 hW3 S1 S2 h1 h2
  cases sf with
  | true =>
    obtain ⟨RS, hRS⟩ : ∃ RS, RS = flS ss ps := ⟨_, rfl⟩
    obtain ⟨C, hC⟩ : ∃ C, C = flC ss ps := ⟨_, rfl⟩
    have HE : Hid (flC ss ps = C ∧ flS ss ps = RS) := ⟨hC.symm, hRS.symm⟩
    have hF := implDiskFlush_any q1 c1 ss q2 c2 ps W3 T1 T2 n1 n2 m1 m2
    rw [← hRS, ← hC] at hF
    clear hRS hC T1 T2
    go_enter Try.func36, Try.ntmps36
    go_wp2_with fail
    rw [← HW3.out]
    refine hF.mono ?_
    rintro e y ⟨v1, rfl, ho, hb⟩
    obtain ⟨p1, d1, rfl, -, -⟩ := ownS_form ho.own1
    obtain ⟨r0, r1, r2, r3, f0, f1, f2, f3⟩ := HR.out y hb
    have HV : Hid _ := fun x0 x1 x2 x3 => HQ.out y p1 d1 none 0 RS [] x0 x1 x2 x3 ho hb
    clear a0 a1 a2 a3 a4 hF ho hb HR HQ
    go_wp2_with fail
    refine bodyPost_ret (v := .agg #[.slice p1 RS.length d1, .slice none 0 0, .string ByteArray.empty, .int .i64 C]) (by simp [results, Try.results36, go_sem, r0, r1, r2, r3]) rfl ?_
    show ∃ v1 v2, _ = Ending.returned (.agg #[v1, v2, _, .int .i64 (flC ss ps)]) ∧ DskO _ (flS ss ps) [] _ _ _ ∧ _
    rw [HE.out.1, HE.out.2]
    exact ⟨_, _, rfl, HV.out _ _ _ _⟩
  | false =>
    obtain ⟨RS, hRS⟩ : ∃ RS, RS = wrS ss ps (sa : Int) st := ⟨_, rfl⟩
    obtain ⟨RP, hRP⟩ : ∃ RP, RP = wrP ss ps (sa : Int) st := ⟨_, rfl⟩
    obtain ⟨C, hC⟩ : ∃ C, C = wrC ss ps (sa : Int) st := ⟨_, rfl⟩
    have HE : Hid (wrC ss ps (sa : Int) st = C ∧ wrS ss ps (sa : Int) st = RS ∧ wrP ss ps (sa : Int) st = RP) := ⟨hC.symm, hRS.symm, hRP.symm⟩
    have hF := implDiskWrite_any q1 c1 ss q2 c2 ps (sa : Int) st W3 T1 T2 n1 n2 m1 m2 hs
    rw [← hRS, ← hC, ← hRP] at hF
    clear hRS hC hRP T1 T2
    go_enter Try.func36, Try.ntmps36
    go_wp2_with fail
    rw [← HW3.out]
    refine hF.mono ?_
    rintro e y ⟨v1, v2, rfl, ho, hb⟩
    obtain ⟨p1, d1, rfl, -, -⟩ := ownS_form ho.own1
    obtain ⟨p2, d2, rfl, -, -⟩ := ownP_form ho.own2
    obtain ⟨r0, r1, r2, r3, f0, f1, f2, f3⟩ := HR.out y hb
    have HV : Hid _ := fun x0 x1 x2 x3 => HQ.out y p1 d1 p2 d2 RS RP x0 x1 x2 x3 ho hb
    clear a0 a1 a2 a3 a4 hF ho hb HR HQ
    go_wp2_with fail
    refine bodyPost_ret (v := .agg #[.slice p1 RS.length d1, .slice p2 RP.length d2, .string ByteArray.empty, .int .i64 C]) (by simp [results, Try.results36, go_sem, r0, r1, r2, r3]) rfl ?_
    show ∃ v1 v2, _ = Ending.returned (.agg #[v1, v2, _, .int .i64 (wrC ss ps (sa : Int) st)]) ∧ DskO _ (wrS ss ps (sa : Int) st) (wrP ss ps (sa : Int) st) _ _ _ ∧ _
    rw [HE.out.1, HE.out.2.1, HE.out.2.2]
    exact ⟨_, _, rfl, HV.out _ _ _ _⟩
theorem doneTo_any (s : Stp) (q1 : Option Addr) (c1 : Nat) (ss : List ByteArray) (q2 : Option Addr) (c2 : Nat) (ps : List Pnd) (w : World) (h1 : TxtAt w q1 ss) (h2 : PndAt w q2 ps) (n1 : ss.length ≤ 1048576) (n2 : ps.length ≤ 1048576) (m1 : ss.length ≤ c1) (m2 : ps.length ≤ c2) (hs : s.t.size ≤ 1048576) :
    Calls Try.prog 36 #[.agg #[.bool s.f, .int .i64 (s.a : Int), .string s.t], .agg #[.slice q1 ss.length c1, .slice q2 ps.length c2]] w fun e w' => ∃ v1 v2, e = .returned (.agg #[v1, v2, .string ByteArray.empty, .int .i64 (stpC ss ps s)]) ∧ DskO w.heap.size (stpS ss ps s) (stpP ss ps s) v1 v2 w' ∧ Below w.heap.size w w' := by
  have h := doneTo_raw s.f s.a s.t q1 c1 ss q2 c2 ps w h1 h2 n1 n2 m1 m2 hs
  cases s with
  | wr a t => exact h
  | fl => exact h
end Go.Proofs.Ytcbclmhkejknoaa
/-
  A disk in a variable's box: laid anew at each step.
-/
namespace Go.Proofs.Ytcbclmhkejknoaa
open Go.RowKit Go.Lib
set_option linter.unusedVariables false

/-- A disk in a variable's box at X. -/
structure StD (W : World) (X : Nat) (ss : List ByteArray) (ps : List Pnd) (v1 v2 : Value) (x : World) : Prop where
  bel : Below W.heap.size W x
  box : Bxs x X 25 #[v1, v2]
  own : DskO W.heap.size ss ps v1 v2 x
  lo : W.heap.size ≤ X
theorem StD.below {W : World} {X : Nat} {ss : List ByteArray} {ps : List Pnd} {v1 v2 : Value} {x x' : World} (h : StD W X ss ps v1 v2 x) (hb : Below x.heap.size x x') : StD W X ss ps v1 v2 x' := ⟨chainB h.bel hb, h.box.below hb, h.own.below hb, h.lo⟩
/-- Another disk is laid into the box. -/
theorem StD.put {W : World} {X : Nat} {ss : List ByteArray} {ps : List Pnd} {v1 v2 : Value} {x : World} (h : StD W X ss ps v1 v2 x) {ss' : List ByteArray} {ps' : List Pnd} {u1 u2 : Value} {base : Nat} (ho : DskO base ss' ps' u1 u2 x) (hb : X < base) : StD W X ss' ps' u1 u2 ((x.setCell ⟨X, 0, none⟩ u1).setCell ⟨X, 1, none⟩ u2) :=
  ⟨(h.bel.setCell h.lo _).setCell h.lo _, (h.box.set 0 u1).set 1 u2, ((ho.set hb 0 u1).set hb 1 u2).mono (by have := h.lo; omega), h.lo⟩
theorem StD.cells {W : World} {X : Nat} {ss : List ByteArray} {ps : List Pnd} {v1 v2 : Value} {x : World} (h : StD W X ss ps v1 v2 x) : x.cell? ⟨X, 0, none⟩ = some v1 ∧ x.cell? ⟨X, 1, none⟩ = some v2 ∧ x.frozen? ⟨X, 0, none⟩ = false ∧ x.frozen? ⟨X, 1, none⟩ = false := ⟨h.box.cell 0, h.box.cell 1, h.box.fr 0, h.box.fr 1⟩
/-- The box alone. -/
structure StB (W : World) (X : Nat) (v1 v2 : Value) (x : World) : Prop where
  bel : Below W.heap.size W x
  box : Bxs x X 25 #[v1, v2]
  lo : W.heap.size ≤ X
theorem StD.b {W : World} {X : Nat} {ss : List ByteArray} {ps : List Pnd} {v1 v2 : Value} {x : World} (h : StD W X ss ps v1 v2 x) : StB W X v1 v2 x := ⟨h.bel, h.box, h.lo⟩
theorem StB.put {W : World} {X : Nat} {v1 v2 : Value} {x : World} (h : StB W X v1 v2 x) {ss' : List ByteArray} {ps' : List Pnd} {u1 u2 : Value} {base : Nat} (ho : DskO base ss' ps' u1 u2 x) (hb : X < base) : StD W X ss' ps' u1 u2 ((x.setCell ⟨X, 0, none⟩ u1).setCell ⟨X, 1, none⟩ u2) :=
  ⟨(h.bel.setCell h.lo _).setCell h.lo _, (h.box.set 0 u1).set 1 u2, ((ho.set hb 0 u1).set hb 1 u2).mono (by have := h.lo; omega), h.lo⟩
theorem StB.set4 {W : World} {X : Nat} {v1 v2 : Value} {x : World} (h : StB W X v1 v2 x) {Y : Nat} (hY : X < Y) (x0 x1 x2 x3 : Value) : StB W X v1 v2 ((((x.setCell ⟨Y, 0, none⟩ x0).setCell ⟨Y, 1, none⟩ x1).setCell ⟨Y, 2, none⟩ x2).setCell ⟨Y, 3, none⟩ x3) :=
  ⟨below_set4 h.bel (by have := h.lo; omega) x0 x1 x2 x3, ((((h.box.other Y 0 (by omega) x0).other Y 1 (by omega) x1).other Y 2 (by omega) x2).other Y 3 (by omega) x3), h.lo⟩
theorem do_all {l : List Stp} {ss : List ByteArray} {ps : List Pnd} {k : Nat} {c : Int} (hk : k < l.length) (h : doC ss ps (l.take (k + 1)) = c) (hc : c ≠ 0) : doC ss ps l = c ∧ doS ss ps l = [] ∧ doP ss ps l = [] := by
  have e := do_early (l := l) (ss := ss) (ps := ps) (k := k + 1) (m := l.length) (by omega) (by rw [h]; exact hc)
  rw [List.take_of_length_le (Nat.le_refl _), h] at e
  have := do_ill l ss ps (by rw [e]; exact hc)
  exact ⟨e, this.1, this.2⟩

end Go.Proofs.Ytcbclmhkejknoaa
/-
  What the program's allDoneTo answers: all steps, till one tells a code.
  Conditions: the cells hold the texts, the pendings and the steps; the disk is right.
-/
namespace Go.Proofs.Ytcbclmhkejknoaa
open Go.RowKit Go.Lib
set_option linter.unusedVariables false
set_option maxRecDepth 20000

set_option maxHeartbeats 4000000 in
theorem allDoneTo_any (q1 : Option Addr) (c1 : Nat) (ss : List ByteArray) (q2 : Option Addr) (c2 : Nat) (ps : List Pnd) (sp : Option Addr) (sc : Nat) (L : List Stp) (w : World) (h1 : TxtAt w q1 ss) (h2 : PndAt w q2 ps) (h3 : StpAt w sp L) (hr : dskB ss ps = true) (m1 : ss.length ≤ c1) (m2 : ps.length ≤ c2) (m3 : L.length ≤ sc) (hL : L.length ≤ 1048576) (ht : ∀ s ∈ L, s.t.size ≤ 1048576) :
    Calls Try.prog 26 #[.agg #[.slice q1 ss.length c1, .slice q2 ps.length c2], .slice sp L.length sc] w fun e w' => ∃ v1 v2, e = .returned (.agg #[v1, v2, .string ByteArray.empty, .int .i64 0, .int .i64 (doC ss ps L)]) ∧ DskO w.heap.size (doS ss ps L) (doP ss ps L) v1 v2 w' ∧ Below w.heap.size w w' := by
  obtain ⟨W2, hW2⟩ : ∃ W2, W2 = (w.alloc (.cells #[.slice q1 ss.length c1, .slice q2 ps.length c2] 25)).alloc (.cells #[.slice none 0 0, .slice none 0 0, .string ⟨#[]⟩, .int .i64 0, .int .i64 0] 31) := ⟨_, rfl⟩
  have HW2 : Hid (W2 = (w.alloc (.cells #[.slice q1 ss.length c1, .slice q2 ps.length c2] 25)).alloc (.cells #[.slice none 0 0, .slice none 0 0, .string ⟨#[]⟩, .int .i64 0, .int .i64 0] 31)) := hW2
  have hs1 : (w.alloc (.cells #[.slice q1 ss.length c1, .slice q2 ps.length c2] 25)).heap.size = w.heap.size + 1 := by simp
  have S2 : W2.heap.size = w.heap.size + 2 := by rw [hW2]; simp
  have R0 : Bxs W2 w.heap.size 25 #[.slice q1 ss.length c1, .slice q2 ps.length c2] := by rw [hW2]; exact (Bxs.new _ _ _).alloc _
  have R1 : Bxs W2 (w.heap.size + 1) 31 #[.slice none 0 0, .slice none 0 0, .string ByteArray.empty, .int .i64 0, .int .i64 0] := by rw [hW2, ← hs1]; exact Bxs.new _ _ _
  have B2 : Hid (Below w.heap.size w W2) := by rw [hW2]; exact ((Below.refl _ _).alloc (Nat.le_refl _) _).alloc (by rw [hs1]; omega) _
  have U3 : Hid (∀ x, Below W2.heap.size W2 x → StpAt x sp L) := fun x hb => h3.below (chainB B2.out hb)
  have HR : Hid (∀ x, Below W2.heap.size W2 x → x.cell? ⟨w.heap.size + 1, 0, none⟩ = some (.slice none 0 0) ∧ x.cell? ⟨w.heap.size + 1, 1, none⟩ = some (.slice none 0 0) ∧ x.cell? ⟨w.heap.size + 1, 2, none⟩ = some (.string ByteArray.empty) ∧ x.cell? ⟨w.heap.size + 1, 3, none⟩ = some (.int .i64 0) ∧ x.cell? ⟨w.heap.size + 1, 4, none⟩ = some (.int .i64 0) ∧ x.frozen? ⟨w.heap.size + 1, 0, none⟩ = false ∧ x.frozen? ⟨w.heap.size + 1, 1, none⟩ = false ∧ x.frozen? ⟨w.heap.size + 1, 2, none⟩ = false ∧ x.frozen? ⟨w.heap.size + 1, 3, none⟩ = false ∧ x.frozen? ⟨w.heap.size + 1, 4, none⟩ = false) := fun x hb => by
    have k := R1.below hb
    exact ⟨k.cell 0, k.cell 1, k.cell 2, k.cell 3, k.cell 4, k.fr 0, k.fr 1, k.fr 2, k.fr 3, k.fr 4⟩
  have HSz : Hid (W2.heap.size = w.heap.size + 2) := S2
  have HT : Hid (∀ s ∈ L, s.t.size ≤ 1048576) := ht
  have HEr : Hid (∀ (y : World) (c : Int) (x0 x1 x2 x3 x4 : Value), Below W2.heap.size W2 y → doC ss ps L = c ∧ doS ss ps L = [] ∧ doP ss ps L = [] → ∃ v1 v2, Ending.returned (.agg #[.slice none 0 0, .slice none 0 0, .string ByteArray.empty, .int .i64 0, .int .i64 c]) = .returned (.agg #[v1, v2, .string ByteArray.empty, .int .i64 0, .int .i64 (doC ss ps L)]) ∧ DskO w.heap.size (doS ss ps L) (doP ss ps L) v1 v2 (((((y.setCell ⟨w.heap.size + 1, 0, none⟩ x0).setCell ⟨w.heap.size + 1, 1, none⟩ x1).setCell ⟨w.heap.size + 1, 2, none⟩ x2).setCell ⟨w.heap.size + 1, 3, none⟩ x3).setCell ⟨w.heap.size + 1, 4, none⟩ x4) ∧ Below w.heap.size w (((((y.setCell ⟨w.heap.size + 1, 0, none⟩ x0).setCell ⟨w.heap.size + 1, 1, none⟩ x1).setCell ⟨w.heap.size + 1, 2, none⟩ x2).setCell ⟨w.heap.size + 1, 3, none⟩ x3).setCell ⟨w.heap.size + 1, 4, none⟩ x4)) := by
    intro y c x0 x1 x2 x3 x4 hb ⟨e1, e2, e3⟩
    rw [e1, e2, e3]
    exact ⟨_, _, rfl, DskO.nil _ _, below_set5 (chainB B2.out hb) (by omega) _ _ _ _ _⟩
  obtain ⟨⟨p1, p2⟩, p3, p4, p5⟩ := dskB_parts hr
  have hC := copiedDisk_any q1 c1 ss q2 c2 ps W2 (h1.below B2.out) (h2.below B2.out) (by omega) (by omega) m1 m2 (fun x hx => by have := p4 x hx; omega) (fun p hp => by have := (p5 p hp).2; omega)
  have t0 := R0.cell 0
  have t1 := R0.cell 1
  rw [HW2.out] at t0 t1
  have HRt : Hid (dskB ss ps = true) := hr
  clear hW2 R0 R1 h1 h2 h3 hs1 S2 p4 p5 hr ht p1 p2 p3
  go_enter Try.func26, Try.ntmps26
  go_wp2_with fail
  rw [← HW2.out]
  refine hC.mono ?_
  rintro e y1 ⟨v1, v2, rfl, ho, b1⟩
  obtain ⟨a1, d1, rfl, -, -⟩ := ownS_form ho.own1
  obtain ⟨a2, d2, rfl, -, -⟩ := ownP_form ho.own2
  obtain ⟨W3, hW3⟩ : ∃ W3, W3 = y1.alloc (.cells #[.slice a1 ss.length d1, .slice a2 ps.length d2] 25) := ⟨_, rfl⟩
  have HW3 : Hid (W3 = y1.alloc (.cells #[.slice a1 ss.length d1, .slice a2 ps.length d2] 25)) := hW3
  have F0 : Hid (StD W2 y1.heap.size ss ps (.slice a1 ss.length d1) (.slice a2 ps.length d2) W3) := by
    rw [hW3]; exact ⟨alB b1 _, Bxs.new _ _ _, ho.below ((Below.refl _ _).alloc (Nat.le_refl _) _), b1.size⟩
  clear t0 t1 hC ho b1 hW3
  go_wp2_with fail
  rw [← HW3.out]
  go_loopw [13] (fun i wr => ∃ (k : Nat) (S : List ByteArray) (P : List Pnd) (v1 v2 : Value), k ≤ L.length ∧ i = .int .i64 k ∧ Hid (doC ss ps (L.take k) = 0 ∧ S = doS ss ps (L.take k) ∧ P = doP ss ps (L.take k) ∧ dskB S P = true) ∧ Hid (StD W2 y1.heap.size S P v1 v2 wr)) (fun i _ => L.length - (intOf i).toNat)
  case atStart => exact ⟨0, ss, ps, _, _, by omega, rfl, ⟨rfl, rfl, rfl, HRt.out⟩, F0⟩
  case round =>
    clear F0
    obtain ⟨k, S, P, v1, v2, hk, rfl, HK, HF⟩ := hrel
    obtain ⟨hk0, hkS, hkP, hkr⟩ := HK.out
    obtain ⟨e1, d1, rfl, j1, u1⟩ := ownS_form HF.out.own.own1
    obtain ⟨e2, d2, rfl, j2, u2⟩ := ownP_form HF.out.own.own2
    obtain ⟨x0, x1, x2, x3⟩ := HF.out.cells
    obtain ⟨⟨g1, g2⟩, g3, -, -⟩ := dskB_parts hkr
    by_cases hlt : k < L.length
    · obtain ⟨bp, op, rfl, hbp, z0, z1, z2⟩ := U3.out _ HF.out.bel k hlt
      have hsn := do_snoc hlt hk0
      rw [← hkS, ← hkP] at hsn
      have htk := HT.out _ (List.getElem_mem hlt)
      have hDn := fun (x : World) (hb : Below wr.heap.size wr x) => doneTo_any L[k] e1 d1 S e2 d2 P x (u1.below hb) (u2.below hb) (by omega) (by omega) j1 j2 htk
      have HDn : Hid (∀ (x : World), Below wr.heap.size wr x → _) := hDn
      have hrt : stpC S P L[k] = 0 → dskB (stpS S P L[k]) (stpP S P L[k]) = true := fun h => stp_right hkr h
      have HN : Hid (stpC S P L[k] = 0 → doC ss ps (L.take (k + 1)) = 0 ∧ stpS S P L[k] = doS ss ps (L.take (k + 1)) ∧ stpP S P L[k] = doP ss ps (L.take (k + 1)) ∧ dskB (stpS S P L[k]) (stpP S P L[k]) = true) := fun h => ⟨by rw [hsn.1]; exact h, (hsn.2 h).1.symm, (hsn.2 h).2.symm, hrt h⟩
      have HB : Hid (stpC S P L[k] ≠ 0 → doC ss ps L = stpC S P L[k] ∧ doS ss ps L = [] ∧ doP ss ps L = []) := fun h => do_all hlt hsn.1 h
      have i1 : (k : Int) < L.length := by omega
      clear hDn hsn hrt htk HK hk0 hkS hkP hkr
      generalize L[k] = s at *
      obtain ⟨C, hC⟩ : ∃ C, C = stpC S P s := ⟨_, rfl⟩
      rw [← hC] at HN HB HDn
      have W4 : Below wr.heap.size wr (wr.alloc (.cells #[.bool s.f, .int .i64 (s.a : Int), .string s.t] 61)) := (Below.refl _ _).alloc (Nat.le_refl _) _
      have y0 := (HF.out.below W4).cells
      obtain ⟨y0, y1', y2', y3'⟩ := y0
      have HD := HDn.out _ W4
      have HBx : Hid (StD W2 y1.heap.size S P (.slice e1 S.length d1) (.slice e2 P.length d2) (wr.alloc (.cells #[.bool s.f, .int .i64 (s.a : Int), .string s.t] 61))) := HF.out.below W4
      generalize s.f = sf at *
      generalize s.a = sa at *
      generalize s.t = st at *
      clear HDn W4
      go_wp2_with fail
      refine HD.mono ?_
      rintro e y5 ⟨vv1, vv2, rfl, ho, b5⟩
      obtain ⟨f1, n1, rfl, -, -⟩ := ownS_form ho.own1
      obtain ⟨f2, n2, rfl, -, -⟩ := ownP_form ho.own2
      obtain ⟨W6, hW6⟩ : ∃ W6, W6 = y5.alloc (.cells #[.slice f1 (stpS S P s).length n1, .slice f2 (stpP S P s).length n2, .string ByteArray.empty, .int .i64 C] 41) := ⟨_, rfl⟩
      have HW6 : Hid (W6 = y5.alloc (.cells #[.slice f1 (stpS S P s).length n1, .slice f2 (stpP S P s).length n2, .string ByteArray.empty, .int .i64 C] 41)) := hW6
      have b6 : Below y5.heap.size y5 W6 := by rw [hW6]; exact (Below.refl _ _).alloc (Nat.le_refl _) _
      have K6 : Bxs W6 y5.heap.size 41 #[.slice f1 (stpS S P s).length n1, .slice f2 (stpP S P s).length n2, .string ByteArray.empty, .int .i64 C] := by rw [hW6]; exact Bxs.new _ _ _
      have HF6 : Hid (StD W2 y1.heap.size S P (.slice e1 S.length d1) (.slice e2 P.length d2) W6) := (HBx.out.below b5).below b6
      have ho6 := ho.below b6
      have hX : y1.heap.size < (wr.alloc (.cells #[.bool sf, .int .i64 (sa : Int), .string st] 61)).heap.size := HBx.out.box.lt
      have HP6 : Hid (StD W2 y1.heap.size (stpS S P s) (stpP S P s) (.slice f1 (stpS S P s).length n1) (.slice f2 (stpP S P s).length n2) ((W6.setCell ⟨y1.heap.size, 0, none⟩ (.slice f1 (stpS S P s).length n1)).setCell ⟨y1.heap.size, 1, none⟩ (.slice f2 (stpP S P s).length n2))) := HF6.out.put ho6 hX
      have k0 := K6.cell 0
      have k1 := K6.cell 1
      have k3 := K6.cell 3
      obtain ⟨c0, c1', c2', c3'⟩ := HF6.out.cells
      obtain ⟨r0, r1, r2, r3, r4, q0, q1', q2', q3, q4⟩ := HR.out _ HF6.out.bel
      have HEE : Hid _ := fun (h : C ≠ 0) x0 x1 x2 x3 x4 => HEr.out W6 C x0 x1 x2 x3 x4 HF6.out.bel (HB.out h)
      clear HB HD x0 x1 x2 x3 y0 y1' y2' y3' z0 z1 z2 K6 b6 b5 ho ho6 hX HBx HF HF6 u1 u2
      by_cases hc0 : C = 0
      · obtain ⟨t1, t2, t3, t4⟩ := HN.out hc0
        have HK2 : Hid (doC ss ps (L.take (k + 1)) = 0 ∧ stpS S P s = doS ss ps (L.take (k + 1)) ∧ stpP S P s = doP ss ps (L.take (k + 1)) ∧ dskB (stpS S P s) (stpP S P s) = true) := ⟨t1, t2, t3, t4⟩
        generalize stpS S P s = S' at *
        generalize stpP S P s = P' at *
        subst hc0
        rw [hW6] at k0 k1 k3 c0 c1' c2' c3'
        rw [HW6.out] at HP6
        clear hC t1 t2 t3 t4 HN HEE r0 r1 r2 r3 r4 q0 q1' q2' q3 q4 hW6
        go_wp2_with fail
        go_roundw
        case rel => exact ⟨k + 1, S', P', _, _, by omega, by go_num, HK2, HP6⟩
        case measure => simp [intOf]; omega
      · have hc1 : (C == 0) = false := beq_eq_false_iff_ne.2 hc0
        have HE2 : Hid _ := HEE.out hc0
        generalize stpS S P s = S' at *
        generalize stpP S P s = P' at *
        rw [hW6] at k0 k1 k3 r0 r1 r2 r3 r4 q0 q1' q2' q3 q4
        rw [HW6.out] at HE2
        clear hC HN HEE c0 c1' c2' c3' hW6 HP6 hc0
        go_wp2_with fail
        refine bodyPost_ret (v := .agg #[.slice none 0 0, .slice none 0 0, .string ByteArray.empty, .int .i64 0, .int .i64 C]) (by simp [results, Try.results26, go_sem, r0, r1, r2, r3, r4]; rfl) rfl ?_
        exact HE2.out _ _ _ _ _
    · obtain rfl : k = L.length := by omega
      rw [List.take_of_length_le (Nat.le_refl _)] at hk0 hkS hkP
      obtain ⟨r0, r1, r2, r3, r4, f0, f1, f2, f3, f4⟩ := HR.out _ HF.out.bel
      have HE : Hid (∀ x0 x1 x2 x3 x4 : Value, DskO w.heap.size S P (.slice e1 S.length d1) (.slice e2 P.length d2) (((((wr.setCell ⟨w.heap.size + 1, 0, none⟩ x0).setCell ⟨w.heap.size + 1, 1, none⟩ x1).setCell ⟨w.heap.size + 1, 2, none⟩ x2).setCell ⟨w.heap.size + 1, 3, none⟩ x3).setCell ⟨w.heap.size + 1, 4, none⟩ x4) ∧ Below w.heap.size w (((((wr.setCell ⟨w.heap.size + 1, 0, none⟩ x0).setCell ⟨w.heap.size + 1, 1, none⟩ x1).setCell ⟨w.heap.size + 1, 2, none⟩ x2).setCell ⟨w.heap.size + 1, 3, none⟩ x3).setCell ⟨w.heap.size + 1, 4, none⟩ x4)) := fun x0 x1 x2 x3 x4 => by
        have hz := HSz.out
        exact ⟨(HF.out.own.set5 (by omega) x0 x1 x2 x3 x4).mono (by omega), below_set5 (chainB B2.out HF.out.bel) (by omega) _ _ _ _ _⟩
      have HV : Hid (doC ss ps L = 0 ∧ doS ss ps L = S ∧ doP ss ps L = P) := ⟨hk0, hkS.symm, hkP.symm⟩
      clear HF HR HK hk0 hkS hkP hkr HEr
      go_wp2_with fail
      refine bodyPost_ret (v := .agg #[.slice e1 S.length d1, .slice e2 P.length d2, .string ByteArray.empty, .int .i64 0, .int .i64 0]) (by simp [results, Try.results26, go_sem, r0, r1, r2, r3, r4]; rfl) rfl ?_
      rw [HV.out.1, HV.out.2.1, HV.out.2.2]
      exact ⟨_, _, rfl, HE.out _ _ _ _ _⟩
end Go.Proofs.Ytcbclmhkejknoaa
/-
  What the program's AreaFormat answers: as the specification's.
  Conditions: the cells of Sectors and Pending hold the texts and the pendings.
-/
namespace Go.Proofs.Ytcbclmhkejknoaa
open Go.RowKit Go.Lib
set_option linter.unusedVariables false
set_option maxRecDepth 20000

theorem fm_do {ss : List ByteArray} {ps : List Pnd} (H : ByteArray) (hr : dskB ss ps = true) :
    doC ss ps [.wr 0 H, .fl] = wrC ss ps 0 H ∧ doS ss ps [.wr 0 H, .fl] = (if wrC ss ps 0 H = 0 then flushB ss (ps ++ [(0, H)]) else []) ∧ doP ss ps [.wr 0 H, .fl] = [] := by
  have e0 : stpC ss ps (.wr 0 H) = wrC ss ps 0 H := rfl
  by_cases h : wrC ss ps 0 H = 0
  · have h' : stpC ss ps (.wr 0 H) = 0 := h
    have e1 : stpS ss ps (.wr 0 H) = ss := if_pos h
    have e2 : stpP ss ps (.wr 0 H) = ps ++ [(0, H)] := if_pos h
    have hr2 := write_right h
    have f1 : stpC ss (ps ++ [(0, H)]) .fl = 0 := if_pos hr2
    have f2 : stpS ss (ps ++ [(0, H)]) .fl = flushB ss (ps ++ [(0, H)]) := if_pos hr2
    rw [doC_y h', doS_y h', doP_y h', e1, e2, doC_y f1, doS_y f1, doP_y f1, f2, if_pos h, h]
    exact ⟨rfl, rfl, rfl⟩
  · have h' : ¬ stpC ss ps (.wr 0 H) = 0 := h
    rw [doC_n h', doS_n h', doP_n h', if_neg h]
    exact ⟨rfl, rfl, rfl⟩
theorem two_steps {w : World} {b : Nat} {H : ByteArray} (h : w.heap[b]? = some (.cells #[.bool false, .int .i64 0, .string H, .bool true, .int .i64 0, .string ByteArray.empty] 61 (0, 0))) : StpAt w (some ⟨b, 0, none⟩) [.wr 0 H, .fl] := by
  intro i hi
  have hb := lt_of_block h
  match i, hi with
  | 0, _ => exact ⟨b, 0, rfl, hb, by simp [World.cell?, h]; rfl, by simp [World.cell?, h]; rfl, by simp [World.cell?, h]; rfl⟩
  | 1, _ => exact ⟨b, 0, rfl, hb, by simp [World.cell?, h]; rfl, by simp [World.cell?, h]; rfl, by simp [World.cell?, h]; rfl⟩
set_option maxHeartbeats 4000000 in
theorem implAreaFormat_any (q1 : Option Addr) (c1 : Nat) (ss : List ByteArray) (q2 : Option Addr) (c2 : Nat) (ps : List Pnd) (w : World) (h1 : TxtAt w q1 ss) (h2 : PndAt w q2 ps) (n1 : ss.length ≤ 1048576) (n2 : ps.length ≤ 1048576) (m1 : ss.length ≤ c1) (m2 : ps.length ≤ c2) :
    Calls Try.prog 11 #[.agg #[.slice q1 ss.length c1, .slice q2 ps.length c2]] w fun e w' => ∃ v1 v2, e = .returned (.agg #[v1, v2, .string ByteArray.empty, .int .i64 0, .int .i64 (fmC ss ps)]) ∧ DskO w.heap.size (fmS ss ps) [] v1 v2 w' ∧ Below w.heap.size w w' := by
  obtain ⟨W2, hW2⟩ : ∃ W2, W2 = (w.alloc (.cells #[.slice q1 ss.length c1, .slice q2 ps.length c2] 25)).alloc (.cells #[.slice none 0 0, .slice none 0 0, .string ⟨#[]⟩, .int .i64 0, .int .i64 0] 31) := ⟨_, rfl⟩
  have HW2 : Hid (W2 = (w.alloc (.cells #[.slice q1 ss.length c1, .slice q2 ps.length c2] 25)).alloc (.cells #[.slice none 0 0, .slice none 0 0, .string ⟨#[]⟩, .int .i64 0, .int .i64 0] 31)) := hW2
  have hs1 : (w.alloc (.cells #[.slice q1 ss.length c1, .slice q2 ps.length c2] 25)).heap.size = w.heap.size + 1 := by simp
  have S2 : W2.heap.size = w.heap.size + 2 := by rw [hW2]; simp
  have R0 : Bxs W2 w.heap.size 25 #[.slice q1 ss.length c1, .slice q2 ps.length c2] := by rw [hW2]; exact (Bxs.new _ _ _).alloc _
  have R1 : Bxs W2 (w.heap.size + 1) 31 #[.slice none 0 0, .slice none 0 0, .string ByteArray.empty, .int .i64 0, .int .i64 0] := by rw [hW2, ← hs1]; exact Bxs.new _ _ _
  have B2 : Hid (Below w.heap.size w W2) := by rw [hW2]; exact ((Below.refl _ _).alloc (Nat.le_refl _) _).alloc (by rw [hs1]; omega) _
  have T1 : Hid (TxtAt W2 q1 ss) := h1.below B2.out
  have T2 : Hid (PndAt W2 q2 ps) := h2.below B2.out
  have HX : Hid (∀ x, Below W2.heap.size W2 x → x.cell? ⟨w.heap.size, 0, none⟩ = some (.slice q1 ss.length c1) ∧ x.cell? ⟨w.heap.size, 1, none⟩ = some (.slice q2 ps.length c2)) := fun x hb => ⟨(R0.below hb).cell 0, (R0.below hb).cell 1⟩
  have HR : Hid (∀ x, Below W2.heap.size W2 x → x.cell? ⟨w.heap.size + 1, 0, none⟩ = some (.slice none 0 0) ∧ x.cell? ⟨w.heap.size + 1, 1, none⟩ = some (.slice none 0 0) ∧ x.cell? ⟨w.heap.size + 1, 2, none⟩ = some (.string ByteArray.empty) ∧ x.cell? ⟨w.heap.size + 1, 3, none⟩ = some (.int .i64 0) ∧ x.cell? ⟨w.heap.size + 1, 4, none⟩ = some (.int .i64 0) ∧ x.frozen? ⟨w.heap.size + 1, 0, none⟩ = false ∧ x.frozen? ⟨w.heap.size + 1, 1, none⟩ = false ∧ x.frozen? ⟨w.heap.size + 1, 2, none⟩ = false ∧ x.frozen? ⟨w.heap.size + 1, 3, none⟩ = false ∧ x.frozen? ⟨w.heap.size + 1, 4, none⟩ = false) := fun x hb => by
    have k := R1.below hb
    exact ⟨k.cell 0, k.cell 1, k.cell 2, k.cell 3, k.cell 4, k.fr 0, k.fr 1, k.fr 2, k.fr 3, k.fr 4⟩
  have HEr : Hid (∀ (y : World) (c : Int) (x0 x1 x2 x3 x4 : Value), Below W2.heap.size W2 y → fmC ss ps = c → c ≠ 0 → ∃ v1 v2, Ending.returned (.agg #[.slice none 0 0, .slice none 0 0, .string ByteArray.empty, .int .i64 0, .int .i64 c]) = .returned (.agg #[v1, v2, .string ByteArray.empty, .int .i64 0, .int .i64 (fmC ss ps)]) ∧ DskO w.heap.size (fmS ss ps) [] v1 v2 (((((y.setCell ⟨w.heap.size + 1, 0, none⟩ x0).setCell ⟨w.heap.size + 1, 1, none⟩ x1).setCell ⟨w.heap.size + 1, 2, none⟩ x2).setCell ⟨w.heap.size + 1, 3, none⟩ x3).setCell ⟨w.heap.size + 1, 4, none⟩ x4) ∧ Below w.heap.size w (((((y.setCell ⟨w.heap.size + 1, 0, none⟩ x0).setCell ⟨w.heap.size + 1, 1, none⟩ x1).setCell ⟨w.heap.size + 1, 2, none⟩ x2).setCell ⟨w.heap.size + 1, 3, none⟩ x3).setCell ⟨w.heap.size + 1, 4, none⟩ x4)) := by
    intro y c x0 x1 x2 x3 x4 hb hc hn
    have hn' : ¬ fmC ss ps = 0 := by rw [hc]; exact hn
    rw [show fmS ss ps = [] from if_neg hn', hc]
    exact ⟨_, _, rfl, DskO.nil _ _, below_set5 (chainB B2.out hb) (by omega) _ _ _ _ _⟩
  have hD := implDiskRight_any q1 c1 ss q2 c2 ps W2 T1.out T2.out n1 n2 m1 m2
  obtain ⟨t0, t1⟩ := HX.out W2 (Below.refl _ _)
  have HSz : Hid (W2.heap.size = w.heap.size + 2) := S2
  rw [HW2.out] at t0 t1
  clear hW2 R0 R1 h1 h2 hs1 S2
  cases hd : dskB ss ps with
  | false =>
    have hC : Hid (fmC ss ps = 1) := if_neg (by rw [hd]; exact Bool.false_ne_true)
    have hC0 : Hid ((1 : Int) ≠ 0) := by show _ ≠ _; omega
    rw [hd] at hD
    clear hd T1 T2
    go_enter Try.func11, Try.ntmps11
    go_wp2_with fail
    rw [← HW2.out]
    refine hD.mono ?_
    rintro e y1 ⟨rfl, b1⟩
    have HE : Hid _ := fun x0 x1 x2 x3 x4 => HEr.out y1 1 x0 x1 x2 x3 x4 b1 hC.out hC0.out
    obtain ⟨r0, r1, r2, r3, r4, f0, f1, f2, f3, f4⟩ := HR.out y1 b1
    clear HEr HR HX b1 t0 t1
    go_wp2_with fail
    refine bodyPost_ret (v := .agg #[.slice none 0 0, .slice none 0 0, .string ByteArray.empty, .int .i64 0, .int .i64 1]) (by simp [results, Try.results11, go_sem, r0, r1, r2, r3, r4]; rfl) rfl ?_
    exact HE.out _ _ _ _ _
  | true =>
  rw [hd] at hD
  have hF : fmC ss ps = if ss.length < 3 then 9 else wrC ss ps 0 (headB 0 0 0) := if_pos hd
  by_cases h3 : ss.length < 3
  · have hC : Hid (fmC ss ps = 9) := by show _ = _; rw [hF, if_pos h3]
    have hC0 : Hid ((9 : Int) ≠ 0) := by show _ ≠ _; omega
    have d3 : decide ((ss.length : Int) < 3) = true := decide_eq_true (by omega)
    clear hd T1 T2 hF h3
    go_enter Try.func11, Try.ntmps11
    go_wp2_with fail
    rw [← HW2.out]
    refine hD.mono ?_
    rintro e y1 ⟨rfl, b1⟩
    clear t0 t1
    obtain ⟨t0, t1⟩ := HX.out y1 b1
    have HE : Hid _ := fun x0 x1 x2 x3 x4 => HEr.out y1 9 x0 x1 x2 x3 x4 b1 hC.out hC0.out
    obtain ⟨r0, r1, r2, r3, r4, f0, f1, f2, f3, f4⟩ := HR.out y1 b1
    clear HEr HR HX b1
    go_wp2_with fail
    refine bodyPost_ret (v := .agg #[.slice none 0 0, .slice none 0 0, .string ByteArray.empty, .int .i64 0, .int .i64 9]) (by simp [results, Try.results11, go_sem, r0, r1, r2, r3, r4]; rfl) rfl ?_
    exact HE.out _ _ _ _ _
  rw [if_neg h3] at hF
  have d3 : decide ((ss.length : Int) < 3) = false := decide_eq_false (by omega)
  have hhs := headB_small 0 0 0
  obtain ⟨HT, hHT⟩ : ∃ HT, HT = headB 0 0 0 := ⟨_, rfl⟩
  obtain ⟨k1, k2, k3⟩ := fm_do HT hd
  obtain ⟨RS, hRS⟩ : ∃ RS, RS = doS ss ps [.wr 0 HT, .fl] := ⟨_, rfl⟩
  obtain ⟨RP, hRP⟩ : ∃ RP, RP = doP ss ps [.wr 0 HT, .fl] := ⟨_, rfl⟩
  obtain ⟨C, hC⟩ : ∃ C, C = doC ss ps [.wr 0 HT, .fl] := ⟨_, rfl⟩
  have HE : Hid (fmC ss ps = C ∧ fmS ss ps = RS ∧ RP = []) := by
    refine ⟨by rw [hF, hC, k1, hHT], ?_, by rw [hRP]; exact k3⟩
    show (if fmC ss ps = 0 then _ else _) = _
    rw [hF, hRS, k2, hHT]
  have QH : Hid (∀ x, Below W2.heap.size W2 x → Calls Try.prog 27 #[.agg #[.int .i64 0, .int .i64 0, .int .i64 0]] x fun e x1 => ∃ b, e = .returned (.slice (some ⟨b, 0, none⟩) 2 2) ∧ StpAt x1 (some ⟨b, 0, none⟩) [.wr 0 HT, .fl] ∧ Below W2.heap.size W2 x1) := fun x hb => (headSteps_any 0 0 0 x (by omega) (by omega) (by omega) (by omega) (by omega) (by omega)).mono (by
    rintro e x1 ⟨b, -, rfl, hbl, hb1⟩
    rw [← hHT] at hbl
    exact ⟨b, rfl, two_steps hbl, chainB hb hb1⟩)
  have QA : Hid (∀ x b, Below W2.heap.size W2 x → StpAt x (some ⟨b, 0, none⟩) [.wr 0 HT, .fl] → Calls Try.prog 26 #[.agg #[.slice q1 ss.length c1, .slice q2 ps.length c2], .slice (some ⟨b, 0, none⟩) 2 2] x fun e x1 => ∃ p1 d1 p2 d2, e = .returned (.agg #[.slice p1 RS.length d1, .slice p2 RP.length d2, .string ByteArray.empty, .int .i64 0, .int .i64 C]) ∧ DskO W2.heap.size RS RP (.slice p1 RS.length d1) (.slice p2 RP.length d2) x1 ∧ Below W2.heap.size W2 x1) := fun x b hb hst => by
    have h := allDoneTo_any q1 c1 ss q2 c2 ps (some ⟨b, 0, none⟩) 2 [.wr 0 HT, .fl] x (T1.out.below hb) (T2.out.below hb) hst hd m1 m2 (by simp) (by simp) (fun s hs => by
      rcases List.mem_cons.1 hs with rfl | hs
      · show HT.size ≤ _; rw [hHT]; omega
      · rcases List.mem_cons.1 hs with rfl | hs
        · show ByteArray.empty.size ≤ _; simp
        · cases hs)
    rw [← hRS, ← hRP, ← hC] at h
    refine h.mono ?_
    rintro e x1 ⟨v1, v2, rfl, ho, hb1⟩
    obtain ⟨p1, d1, rfl, -, -⟩ := ownS_form ho.own1
    obtain ⟨p2, d2, rfl, -, -⟩ := ownP_form ho.own2
    exact ⟨p1, d1, p2, d2, rfl, ho.mono hb.size, chainB hb hb1⟩
  have HQ : Hid (∀ (y : World) (p1 : Option Addr) (d1 : Nat) (p2 : Option Addr) (d2 : Nat) (x0 x1 x2 x3 x4 : Value), DskO W2.heap.size RS RP (.slice p1 RS.length d1) (.slice p2 RP.length d2) y → Below W2.heap.size W2 y → DskO w.heap.size RS RP (.slice p1 RS.length d1) (.slice p2 RP.length d2) (((((y.setCell ⟨w.heap.size + 1, 0, none⟩ x0).setCell ⟨w.heap.size + 1, 1, none⟩ x1).setCell ⟨w.heap.size + 1, 2, none⟩ x2).setCell ⟨w.heap.size + 1, 3, none⟩ x3).setCell ⟨w.heap.size + 1, 4, none⟩ x4) ∧ Below w.heap.size w (((((y.setCell ⟨w.heap.size + 1, 0, none⟩ x0).setCell ⟨w.heap.size + 1, 1, none⟩ x1).setCell ⟨w.heap.size + 1, 2, none⟩ x2).setCell ⟨w.heap.size + 1, 3, none⟩ x3).setCell ⟨w.heap.size + 1, 4, none⟩ x4)) := by
    intro y p1 d1 p2 d2 x0 x1 x2 x3 x4 ho hb
    have hz := HSz.out
    exact ⟨(ho.set5 (by omega) x0 x1 x2 x3 x4).mono (by omega), below_set5 (chainB B2.out hb) (by omega) _ _ _ _ _⟩
  have HX5 : Hid (∀ x (u0 u1 u2 u3 u4 : Value), Below W2.heap.size W2 x → (((((x.setCell ⟨w.heap.size + 1, 0, none⟩ u0).setCell ⟨w.heap.size + 1, 1, none⟩ u1).setCell ⟨w.heap.size + 1, 2, none⟩ u2).setCell ⟨w.heap.size + 1, 3, none⟩ u3).setCell ⟨w.heap.size + 1, 4, none⟩ u4).cell? ⟨w.heap.size, 0, none⟩ = some (.slice q1 ss.length c1) ∧ (((((x.setCell ⟨w.heap.size + 1, 0, none⟩ u0).setCell ⟨w.heap.size + 1, 1, none⟩ u1).setCell ⟨w.heap.size + 1, 2, none⟩ u2).setCell ⟨w.heap.size + 1, 3, none⟩ u3).setCell ⟨w.heap.size + 1, 4, none⟩ u4).cell? ⟨w.heap.size, 1, none⟩ = some (.slice q2 ps.length c2)) := fun x u0 u1 u2 u3 u4 hb => by
    have h := HX.out x hb
    simpa [World.cell?, World.setCell, Array.getElem?_modify] using h
  clear hHT hRS hRP hC hF hhs k1 k2 k3 hd T1 T2 HEr
  go_enter Try.func11, Try.ntmps11
  go_wp2_with fail
  rw [← HW2.out]
  refine hD.mono ?_
  rintro e y1 ⟨rfl, b1⟩
  clear t0 t1
  obtain ⟨t0, t1⟩ := HX.out y1 b1
  have HB1 : Hid (Below W2.heap.size W2 y1) := b1
  clear b1
  go_wp2_with fail
  go_region_held3 (fun w' => w'.cell? ⟨w.heap.size, 0, none⟩ = some (.slice q1 ss.length c1) ∧ w'.cell? ⟨w.heap.size, 1, none⟩ = some (.slice q2 ps.length c2)) ((first | with_reducible exact HX5.out _ _ _ _ _ _ z2 | (refine HX.out _ ?hT; (case hT => (with_reducible repeat (first | assumption | exact HB1.out | refine Below.drew ?_)))))) (first
    | (go_at_call 27; with_reducible refine (QH.out _ ?hB).mono ?_; (case hB => first | exact HB1.out | exact HB1.out.drew); rintro e x1 ⟨bs, rfl, hst, z1⟩)
    | (go_at_call 26; with_reducible refine (QA.out _ bs ?hB ?hS).mono ?_; (case hB => first | exact z1 | exact z1.drew); (case hS => first | exact hst | exact hst.below (Below.refl _ _).drew); rintro e x2 ⟨p1, d1, p2, d2, rfl, ho, z2⟩; obtain ⟨r0, r1, r2, r3, r4, f0, f1, f2, f3, f4⟩ := HR.out _ z2))
  all_goals
    have HV : Hid _ := fun x0 x1 x2 x3 x4 => HQ.out _ p1 d1 p2 d2 x0 x1 x2 x3 x4 ho z2
    go_wp2_with fail
    refine bodyPost_ret (v := .agg #[.slice p1 RS.length d1, .slice p2 RP.length d2, .string ByteArray.empty, .int .i64 0, .int .i64 C]) (by simp [results, Try.results11, go_sem, r0, r1, r2, r3, r4]) rfl ?_
    rw [HE.out.1, HE.out.2.1]
    have := HE.out.2.2
    subst this
    exact ⟨_, _, rfl, HV.out _ _ _ _ _⟩
end Go.Proofs.Ytcbclmhkejknoaa
/-
  What DeskDisk answers: a formatted disk of 64 sectors, in memory of its own.
-/
namespace Go.Proofs.Ytcbclmhkejknoaa
open Go.RowKit Go.Lib
set_option linter.unusedVariables false
set_option maxRecDepth 20000

theorem field_diskS (q1 : Option Addr) (n1 d1 : Nat) (q2 : Option Addr) (n2 d2 : Nat) (z : Int) (x : World) : (Instr.field 31 (.agg #[.slice q1 n1 d1, .slice q2 n2 d2, .string ByteArray.empty, .int .i64 0, .int .i64 z]) 0).run Try.prog x = .ok (.agg #[.slice q1 n1 d1, .slice q2 n2 d2]) x := by first | rfl | kernel_rfl
set_option maxHeartbeats 2000000 in
theorem specDeskDisk_any (w : World) :
    Calls Try.prog 4 #[] w fun e w' => ∃ v1 v2, e = .returned (.agg #[v1, v2]) ∧ DskO w.heap.size (fmS (newS 64) []) [] v1 v2 w' ∧ Below w.heap.size w w' := by
  obtain ⟨W1, hW1⟩ : ∃ W1, W1 = w.alloc (.cells #[.slice none 0 0, .slice none 0 0] 25) := ⟨_, rfl⟩
  have HW1 : Hid (W1 = w.alloc (.cells #[.slice none 0 0, .slice none 0 0] 25)) := hW1
  have B1 : Hid (Below w.heap.size w W1) := by rw [hW1]; exact (Below.refl _ _).alloc (Nat.le_refl _) _
  have K1 : Hid (Bxs W1 w.heap.size 25 #[.slice none 0 0, .slice none 0 0]) := by rw [hW1]; exact Bxs.new _ _ _
  have hz1 : Hid (W1.heap.size = w.heap.size + 1) := by rw [hW1]; show _ = _; simp
  have hN := specDiskNew_any 64 W1
  have hl : (newS 64).length ≤ 64 := by decide
  obtain ⟨S0, hS0⟩ : ∃ S0, S0 = newS 64 := ⟨_, rfl⟩
  rw [← hS0] at hN hl ⊢
  clear hW1
  go_enter Try.func4, Try.ntmps4
  go_wp2_with fail
  rw [← HW1.out]
  refine hN.mono ?_
  rintro e w3 ⟨v1, rfl, o3, b3⟩
  obtain ⟨q1, d1, rfl, m1, tx⟩ := ownS_form o3
  have hfm := specAreaFormat_any q1 d1 S0 none 0 [] w3 tx (PndAt.nil _ _) (by omega) (by simp) m1 (by simp)
  have HS0 : Hid (S0 = newS 64) := hS0
  have HB3 : Hid (Below W1.heap.size W1 w3) := b3
  clear o3 tx hS0 hN b3
  go_wp2_with fail
  refine hfm.mono ?_
  rintro e w4 ⟨vf, rfl, of4, b4⟩
  obtain ⟨qf, df, rfl, -, -⟩ := ownS_form of4.own1
  have HB4 : Hid (Below W1.heap.size W1 w4) := chainB HB3.out b4
  have HO : Hid (DskO W1.heap.size (fmS S0 []) [] (.slice qf (fmS S0 []).length df) (.slice none 0 0) w4) := of4.mono HB3.out.size
  have fd := field_diskS qf (fmS S0 []).length df none 0 0 (fmC S0 []) w4
  have r0 : w4.cell? ⟨w.heap.size, 0, none⟩ = some (.slice none 0 0) := (K1.out.below HB4.out).cell 0
  have r1 : w4.cell? ⟨w.heap.size, 1, none⟩ = some (.slice none 0 0) := (K1.out.below HB4.out).cell 1
  have g0 := (K1.out.below HB4.out).fr 0
  have g1 := (K1.out.below HB4.out).fr 1
  have HE : Hid (∀ u0 u1 : Value, DskO w.heap.size (fmS S0 []) [] (.slice qf (fmS S0 []).length df) (.slice none 0 0) ((w4.setCell ⟨w.heap.size, 0, none⟩ u0).setCell ⟨w.heap.size, 1, none⟩ u1) ∧ Below w.heap.size w ((w4.setCell ⟨w.heap.size, 0, none⟩ u0).setCell ⟨w.heap.size, 1, none⟩ u1)) := fun u0 u1 => by
    have hz := hz1.out
    have ho := HO.out
    have far : ∀ {e : TypeId} {s n : Nat} {v : Value} {xs : List Value}, w4.ownsRow W1.heap.size e s v n xs → ((w4.setCell ⟨w.heap.size, 0, none⟩ u0).setCell ⟨w.heap.size, 1, none⟩ u1).ownsRow w.heap.size e s v n xs := fun h => by
      have n : ∀ h : some w.heap.size = _, False := fun h' => by have := (h.lt _ h'.symm).1; omega
      have k : w4.grownBy ((w4.setCell ⟨w.heap.size, 0, none⟩ u0).setCell ⟨w.heap.size, 1, none⟩ u1) (some w.heap.size) := by
        refine ⟨rfl, rfl, rfl, by simp [World.setCell], fun q hq hne => ?_⟩
        have hq' : w.heap.size ≠ q := fun e => hne (by rw [e])
        simp [World.setCell, Array.getElem?_modify, hq']
      exact ownS_mono (h.kept k (.inr (fun e => n e.symm))) (by omega)
    exact ⟨⟨far ho.own1, far ho.own2, ho.ne⟩, below_set2 (chainB B1.out HB4.out) (Nat.le_refl _) u0 u1⟩
  generalize hFS : fmS S0 [] = FS at *
  have HFS : Hid (fmS S0 [] = FS) := hFS
  clear hFS
  generalize fmC S0 [] = FC at *
  clear hfm of4 b4 HO HB4 HB3 K1 hz1 HS0 hl
  go_wp2_with fail
  refine bodyPost_ret (v := .agg #[.slice qf FS.length df, .slice none 0 0]) (by simp [results, Try.results4, go_sem, r0, r1]) rfl ?_
  have hFS := HFS.out
  subst hFS
  exact ⟨_, _, rfl, (HE.out _ _).1, (HE.out _ _).2⟩
theorem field_diskI (q1 : Option Addr) (n1 d1 : Nat) (q2 : Option Addr) (n2 d2 : Nat) (z : Int) (x : World) : (Instr.field 31 (.agg #[.slice q1 n1 d1, .slice q2 n2 d2, .string ByteArray.empty, .int .i64 0, .int .i64 z]) 0).run Try.prog x = .ok (.agg #[.slice q1 n1 d1, .slice q2 n2 d2]) x := by first | rfl | kernel_rfl
set_option maxHeartbeats 2000000 in
theorem implDeskDisk_any (w : World) :
    Calls Try.prog 5 #[] w fun e w' => ∃ v1 v2, e = .returned (.agg #[v1, v2]) ∧ DskO w.heap.size (fmS (newS 64) []) [] v1 v2 w' ∧ Below w.heap.size w w' := by
  obtain ⟨W1, hW1⟩ : ∃ W1, W1 = w.alloc (.cells #[.slice none 0 0, .slice none 0 0] 25) := ⟨_, rfl⟩
  have HW1 : Hid (W1 = w.alloc (.cells #[.slice none 0 0, .slice none 0 0] 25)) := hW1
  have B1 : Hid (Below w.heap.size w W1) := by rw [hW1]; exact (Below.refl _ _).alloc (Nat.le_refl _) _
  have K1 : Hid (Bxs W1 w.heap.size 25 #[.slice none 0 0, .slice none 0 0]) := by rw [hW1]; exact Bxs.new _ _ _
  have hz1 : Hid (W1.heap.size = w.heap.size + 1) := by rw [hW1]; show _ = _; simp
  have hN := implDiskNew_any 64 W1
  have hl : (newS 64).length ≤ 64 := by decide
  obtain ⟨S0, hS0⟩ : ∃ S0, S0 = newS 64 := ⟨_, rfl⟩
  rw [← hS0] at hN hl ⊢
  clear hW1
  go_enter Try.func5, Try.ntmps5
  go_wp2_with fail
  rw [← HW1.out]
  refine hN.mono ?_
  rintro e w3 ⟨v1, rfl, o3, b3⟩
  obtain ⟨q1, d1, rfl, m1, tx⟩ := ownS_form o3
  have hfm := implAreaFormat_any q1 d1 S0 none 0 [] w3 tx (PndAt.nil _ _) (by omega) (by simp) m1 (by simp)
  have HS0 : Hid (S0 = newS 64) := hS0
  have HB3 : Hid (Below W1.heap.size W1 w3) := b3
  clear o3 tx hS0 hN b3
  go_wp2_with fail
  refine hfm.mono ?_
  rintro e w4 ⟨vf, vg, rfl, of4, b4⟩
  obtain ⟨qf, df, rfl, -, -⟩ := ownS_form of4.own1
  obtain ⟨qg, dg, hvg, -, -⟩ := ownP_form of4.own2
  have hvg : vg = .slice qg 0 dg := hvg
  subst hvg
  have HB4 : Hid (Below W1.heap.size W1 w4) := chainB HB3.out b4
  have HO : Hid (DskO W1.heap.size (fmS S0 []) [] (.slice qf (fmS S0 []).length df) (.slice qg 0 dg) w4) := of4.mono HB3.out.size
  have fd := field_diskI qf (fmS S0 []).length df qg 0 dg (fmC S0 []) w4
  have r0 : w4.cell? ⟨w.heap.size, 0, none⟩ = some (.slice none 0 0) := (K1.out.below HB4.out).cell 0
  have r1 : w4.cell? ⟨w.heap.size, 1, none⟩ = some (.slice none 0 0) := (K1.out.below HB4.out).cell 1
  have g0 := (K1.out.below HB4.out).fr 0
  have g1 := (K1.out.below HB4.out).fr 1
  have HE : Hid (∀ u0 u1 : Value, DskO w.heap.size (fmS S0 []) [] (.slice qf (fmS S0 []).length df) (.slice qg 0 dg) ((w4.setCell ⟨w.heap.size, 0, none⟩ u0).setCell ⟨w.heap.size, 1, none⟩ u1) ∧ Below w.heap.size w ((w4.setCell ⟨w.heap.size, 0, none⟩ u0).setCell ⟨w.heap.size, 1, none⟩ u1)) := fun u0 u1 => by
    have hz := hz1.out
    have ho := HO.out
    have far : ∀ {e : TypeId} {s n : Nat} {v : Value} {xs : List Value}, w4.ownsRow W1.heap.size e s v n xs → ((w4.setCell ⟨w.heap.size, 0, none⟩ u0).setCell ⟨w.heap.size, 1, none⟩ u1).ownsRow w.heap.size e s v n xs := fun h => by
      have n : ∀ h : some w.heap.size = _, False := fun h' => by have := (h.lt _ h'.symm).1; omega
      have k : w4.grownBy ((w4.setCell ⟨w.heap.size, 0, none⟩ u0).setCell ⟨w.heap.size, 1, none⟩ u1) (some w.heap.size) := by
        refine ⟨rfl, rfl, rfl, by simp [World.setCell], fun q hq hne => ?_⟩
        have hq' : w.heap.size ≠ q := fun e => hne (by rw [e])
        simp [World.setCell, Array.getElem?_modify, hq']
      exact ownS_mono (h.kept k (.inr (fun e => n e.symm))) (by omega)
    exact ⟨⟨far ho.own1, far ho.own2, ho.ne⟩, below_set2 (chainB B1.out HB4.out) (Nat.le_refl _) u0 u1⟩
  generalize hFS : fmS S0 [] = FS at *
  have HFS : Hid (fmS S0 [] = FS) := hFS
  clear hFS
  generalize fmC S0 [] = FC at *
  clear hfm of4 b4 HO HB4 HB3 K1 hz1 HS0 hl
  go_wp2_with fail
  refine bodyPost_ret (v := .agg #[.slice qf FS.length df, .slice qg 0 dg]) (by simp [results, Try.results5, go_sem, r0, r1]) rfl ?_
  have hFS := HFS.out
  subst hFS
  exact ⟨_, _, rfl, (HE.out _ _).1, (HE.out _ _).2⟩
end Go.Proofs.Ytcbclmhkejknoaa
/-
  The law FnExactDeskDisk returns true.
-/
namespace Go.Proofs.Ytcbclmhkejknoaa
open Go.RowKit Go.Lib
set_option linter.unusedVariables false

theorem deskS_le : (fmS (newS 64) []).length ≤ 1048576 := by
  unfold fmS
  split
  · have h : (newS 64).length ≤ 64 := by decide
    rw [flushB_len]
    omega
  · simp
set_option maxRecDepth 20000 in
set_option maxHeartbeats 8000000 in
theorem deskWalk (w : World) :
    Calls Try.prog 3 #[] w fun e w' => e = .returned (.bool true) ∧ Below w.heap.size w w' := by
  obtain ⟨RS, hRS⟩ : ∃ RS, RS = fmS (newS 64) [] := ⟨_, rfl⟩
  have L1 : RS.length ≤ 1048576 := by rw [hRS]; exact deskS_le
  have hS : Hid (∀ x, Calls Try.prog 4 #[] x fun e x' => ∃ v1 v2, e = .returned (.agg #[v1, v2]) ∧ DskO x.heap.size RS [] v1 v2 x' ∧ Below x.heap.size x x') := fun x => by rw [hRS]; exact specDeskDisk_any x
  have hI : Hid (∀ x, Calls Try.prog 5 #[] x fun e x' => ∃ v1 v2, e = .returned (.agg #[v1, v2]) ∧ DskO x.heap.size RS [] v1 v2 x' ∧ Below x.heap.size x x') := fun x => by rw [hRS]; exact implDeskDisk_any x
  clear hRS
  go_enter Try.func3, Try.ntmps3
  go_wp2_with fail
  refine (hS.out w).mono ?_
  rintro e w4 ⟨vw1, vw2, rfl, oW, b4⟩
  obtain ⟨pw1, cw1, rfl, mw1, -⟩ := ownS_form oW.own1
  obtain ⟨pw2, cw2, hvw, -, -⟩ := ownP_form oW.own2
  have hvw : vw2 = .slice pw2 0 cw2 := hvw
  subst hvw
  have IW : Hid (In2 (.slice pw1 RS.length cw1) (.slice pw2 0 cw2) w.heap.size w4.heap.size) := oW.in2
  obtain ⟨W5, hW5⟩ : ∃ W5, W5 = w4.alloc (.cells #[.slice pw1 RS.length cw1, .slice pw2 0 cw2] 25) := ⟨_, rfl⟩
  have HW5 : Hid (W5 = w4.alloc (.cells #[.slice pw1 RS.length cw1, .slice pw2 0 cw2] 25)) := hW5
  have b5 : Below w4.heap.size w4 W5 := by rw [hW5]; exact (Below.refl _ _).alloc (Nat.le_refl _) _
  have E5 : Hid (Bxs W5 w4.heap.size 25 #[.slice pw1 RS.length cw1, .slice pw2 0 cw2]) := by rw [hW5]; exact Bxs.new _ _ _
  have OW5 : Hid (DskO w.heap.size RS [] (.slice pw1 RS.length cw1) (.slice pw2 0 cw2) W5) := oW.below b5
  have S4 := b4.size
  have S5 := E5.out.lt
  have B5 := chainB b4 b5
  clear hW5 b4 b5 oW hS
  go_wp2_with fail
  rw [← HW5.out]
  refine (hI.out W5).mono ?_
  rintro e w8 ⟨vg1, vg2, rfl, oG, b8⟩
  obtain ⟨pg1, cg1, rfl, mg1, -⟩ := ownS_form oG.own1
  obtain ⟨pg2, cg2, hvg, -, -⟩ := ownP_form oG.own2
  have hvg : vg2 = .slice pg2 0 cg2 := hvg
  subst hvg
  have IG : Hid (In2 (.slice pg1 RS.length cg1) (.slice pg2 0 cg2) W5.heap.size w8.heap.size) := oG.in2
  obtain ⟨W9, hW9⟩ : ∃ W9, W9 = w8.alloc (.cells #[.slice pg1 RS.length cg1, .slice pg2 0 cg2] 25) := ⟨_, rfl⟩
  have HW9 : Hid (W9 = w8.alloc (.cells #[.slice pg1 RS.length cg1, .slice pg2 0 cg2] 25)) := hW9
  have b9 : Below w8.heap.size w8 W9 := by rw [hW9]; exact (Below.refl _ _).alloc (Nat.le_refl _) _
  have G9 : Hid (Bxs W9 w8.heap.size 25 #[.slice pg1 RS.length cg1, .slice pg2 0 cg2]) := by rw [hW9]; exact Bxs.new _ _ _
  have S8 := b8.size
  have S9 := G9.out.lt
  have b89 := chainB b8 b9
  have E9 : Hid (Bxs W9 w4.heap.size 25 #[.slice pw1 RS.length cw1, .slice pw2 0 cw2]) := E5.out.below b89
  have OW9 : Hid (DskO w.heap.size RS [] (.slice pw1 RS.length cw1) (.slice pw2 0 cw2) W9) := OW5.out.below b89
  have OG9 : Hid (DskO W5.heap.size RS [] (.slice pg1 RS.length cg1) (.slice pg2 0 cg2) W9) := oG.below b9
  have B9 := chainB B5 b89
  obtain ⟨y0, y1⟩ := E9.out.two
  rw [hW9] at y0 y1
  have h9 := eqDisk_any pg1 pg2 pw1 pw2 cg1 cg2 cw1 cw2 RS [] W9 (DskO.read (p2 := pg2) (c2 := cg2) OG9.out).1 (PndAt.nil _ _) (DskO.read (p2 := pw2) (c2 := cw2) OW9.out).1 (PndAt.nil _ _) L1 (Nat.zero_le _) mg1 (Nat.zero_le _) mw1 (Nat.zero_le _)
  clear hW9 b8 b9 b89 oG E5 OW5
  go_wp2_with fail
  rw [← HW9.out] at y0 y1 ⊢
  refine h9.mono ?_
  rintro e w14 ⟨rfl, b14⟩
  have E14 : Hid (Bxs w14 w4.heap.size 25 #[.slice pw1 RS.length cw1, .slice pw2 0 cw2]) := E9.out.below b14
  have G14 : Hid (Bxs w14 w8.heap.size 25 #[.slice pg1 RS.length cg1, .slice pg2 0 cg2]) := G9.out.below b14
  have OW14 : Hid (DskO w.heap.size RS [] (.slice pw1 RS.length cw1) (.slice pw2 0 cw2) w14) := OW9.out.below b14
  have OG14 : Hid (DskO W5.heap.size RS [] (.slice pg1 RS.length cg1) (.slice pg2 0 cg2) w14) := OG9.out.below b14
  have S14 := b14.size
  have B14 := chainB B9 b14
  have hm14 := markDisk_any W5.heap.size pg1 pg2 cg1 cg2 RS [] w14 OG14.out.own1 OG14.out.own2 OG14.out.ne L1 (Nat.zero_le _)
  clear y0 y1 b14 E9 G9 OW9 OG9 h9
  obtain ⟨z0, z1⟩ := G14.out.two
  go_wp2_with fail
  refine hm14.mono ?_
  rintro e w15 ⟨rfl, oM1, oM2, wm, gm1, gm2⟩
  have gr := Gr2.mk2 gm1 gm2
  have E15 : Hid (Bxs w15 w4.heap.size 25 #[.slice pw1 RS.length cw1, .slice pw2 0 cw2]) := E14.out.gr2 gr (IG.out.off (.inl (by omega))).1 (IG.out.off (.inl (by omega))).2
  have G15 : Hid (Bxs w15 w8.heap.size 25 #[.slice pg1 RS.length cg1, .slice pg2 0 cg2]) := G14.out.gr2 gr (IG.out.off (.inr (by omega))).1 (IG.out.off (.inr (by omega))).2
  have OW15 : Hid (DskO w.heap.size RS [] (.slice pw1 RS.length cw1) (.slice pw2 0 cw2) w15) := OW14.out.gr2 gr (IW.out.apart IG.out (.inl (by omega)))
  have B15 : Below w.heap.size w w15 := below_gr2 B14 gr B14.size (fun k h => by have := IG.out.1 k h; omega) (fun k h => by have := IG.out.2 k h; omega)
  have hN1 : (marksN 1 RS.length).length = RS.length := by simp [marksN]
  have M15 : Hid (w15.ownsRow W5.heap.size 9 1 (.slice pg1 RS.length cg1) RS.length (strRow (marksN 1 RS.length))) := oM1
  have HM : Hid (∀ x, x.ownsRow W5.heap.size 9 1 (.slice pg1 RS.length cg1) RS.length (strRow (marksN 1 RS.length)) → Calls Try.prog 8 #[.agg #[.slice pg1 RS.length cg1, .slice pg2 0 cg2], .int .i64 1] x fun e x' => e = .returned (.int .i64 (2 * ((([] : List Pnd).length : Nat) : Int) + ((RS.length : Int) + 1))) ∧ Below x.heap.size x x') := fun x h => by
    have h' : x.ownsRow W5.heap.size 9 1 (.slice pg1 RS.length cg1) (marksN 1 RS.length).length (strRow (marksN 1 RS.length)) := by rw [hN1]; exact h
    obtain ⟨p', c', e', _, t'⟩ := ownS_form h'
    rw [hN1] at e'
    cases e'
    exact heldDisk_any pg1 pg2 cg1 cg2 RS.length 0 x t' (PndAt.nil _ _) L1 (Nat.zero_le _) mg1 (Nat.zero_le _)
  clear z0 z1 hm14 gm1 gm2 gr E14 G14 OW14 OG14 oM1 oM2
  obtain ⟨z0, z1⟩ := G15.out.two
  have d10 : decide (2 * ((([] : List Pnd).length : Nat) : Int) + ((RS.length : Int) + 1) < 0) = false := decide_eq_false (by simp; omega)
  have d11 : decide ((RS.length : Int) + 1 < 0) = false := decide_eq_false (by omega)
  go_wp2_with fail
  refine (HM.out _ M15.out).mono ?_
  rintro e w16 ⟨rfl, b16⟩
  have E16 : Hid (Bxs w16 w4.heap.size 25 #[.slice pw1 RS.length cw1, .slice pw2 0 cw2]) := E15.out.below b16
  have G16 : Hid (Bxs w16 w8.heap.size 25 #[.slice pg1 RS.length cg1, .slice pg2 0 cg2]) := G15.out.below b16
  have OW16 : Hid (DskO w.heap.size RS [] (.slice pw1 RS.length cw1) (.slice pw2 0 cw2) w16) := OW15.out.below b16
  have M16 : Hid (w16.ownsRow W5.heap.size 9 1 (.slice pg1 RS.length cg1) RS.length (strRow (marksN 1 RS.length))) := ownS_below M15.out b16
  have B16 := chainB B15 b16
  clear z0 z1 b16 E15 G15 OW15 M15
  go_wp2_with fail
  refine (hI.out w16).mono ?_
  rintro e w18 ⟨vh1, vh2, rfl, oH, b18⟩
  obtain ⟨ph1, ch1, rfl, mh1, -⟩ := ownS_form oH.own1
  obtain ⟨ph2, ch2, hvh, -, -⟩ := ownP_form oH.own2
  have hvh : vh2 = .slice ph2 0 ch2 := hvh
  subst hvh
  obtain ⟨W19, hW19⟩ : ∃ W19, W19 = w18.alloc (.cells #[.slice ph1 RS.length ch1, .slice ph2 0 ch2] 25) := ⟨_, rfl⟩
  have HW19 : Hid (W19 = w18.alloc (.cells #[.slice ph1 RS.length ch1, .slice ph2 0 ch2] 25)) := hW19
  have b19 : Below w18.heap.size w18 W19 := by rw [hW19]; exact (Below.refl _ _).alloc (Nat.le_refl _) _
  have b169 := chainB b18 b19
  have E19 := E16.out.below b169
  have G19 : Hid (Bxs W19 w8.heap.size 25 #[.slice pg1 RS.length cg1, .slice pg2 0 cg2]) := G16.out.below b169
  have OW19 := OW16.out.below b169
  have M19 : Hid (W19.ownsRow W5.heap.size 9 1 (.slice pg1 RS.length cg1) RS.length (strRow (marksN 1 RS.length))) := ownS_below M16.out b169
  have OH19 := oH.below b19
  have B19 := chainB B16 b169
  obtain ⟨y0, y1⟩ := E19.two
  rw [hW19] at y0 y1
  have q19 := eqDisk_any ph1 ph2 pw1 pw2 ch1 ch2 cw1 cw2 RS [] W19 (DskO.read (p2 := ph2) (c2 := ch2) OH19).1 (PndAt.nil _ _) (DskO.read (p2 := pw2) (c2 := cw2) OW19).1 (PndAt.nil _ _) L1 (Nat.zero_le _) mh1 (Nat.zero_le _) mw1 (Nat.zero_le _)
  clear hW19 b18 b19 b169 E16 G16 OW16 M16 oH OH19 OW19 E19
  go_wp2_with fail
  rw [← HW19.out] at y0 y1 ⊢
  refine q19.mono ?_
  rintro e w20 ⟨rfl, b20⟩
  have G20 := G19.out.below b20
  have h20 := HM.out _ (ownS_below M19.out b20)
  have B20 := chainB B19 b20
  clear y0 y1 q19 b20 G19 M19
  obtain ⟨z0, z1⟩ := G20.two
  go_wp2_with fail
  refine h20.mono ?_
  rintro e w21 ⟨rfl, b21⟩
  have B21 := chainB B20 b21
  clear z0 z1 h20 G20
  go_wp2_with fail
  go_ret
  exact ⟨rfl, B21⟩
end Go.Proofs.Ytcbclmhkejknoaa
