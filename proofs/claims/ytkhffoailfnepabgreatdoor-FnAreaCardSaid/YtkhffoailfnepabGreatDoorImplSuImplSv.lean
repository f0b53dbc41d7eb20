/-
  Parts of one proof, laid as one text: ImplSu, ImplSv; what each says stands at its head.
-/
import Derived.Test.YtkhffoailfnepabGreatDoorRows
import Derived.Test.YtkhffoailfnepabGreatDoorBytesDigMath
import Derived.Test.YtkhffoailfnepabGreatDoorSlASlBOwnSOwnBSrc
import Derived.Test.YtkhffoailfnepabGreatDoorDrawsDrawKitDskMath
import Derived.Test.YtkhffoailfnepabGreatDoorDskRAppSStepAppDskA
import Derived.Test.YtkhffoailfnepabGreatDoorDskSDskCDskT
import Derived.Test.YtkhffoailfnepabGreatDoorDskW
import Derived.Test.YtkhffoailfnepabGreatDoorDskFDskK
import Derived.Test.YtkhffoailfnepabGreatDoorLawDLwDskLwArLawIPutMathPutNum
import Derived.Test.YtkhffoailfnepabGreatDoorStpMathAreaPutMUnsealSSpecGN
import Derived.Test.YtkhffoailfnepabGreatDoorFourSealAreaAAreaF
import Derived.Test.YtkhffoailfnepabGreatDoorImplDC
import Derived.Test.YtkhffoailfnepabGreatDoorImplDW
import Derived.Test.YtkhffoailfnepabGreatDoorImplDGImplFlushImplSt
import Derived.Handy
import Derived.WalkSpells
import Derived.OwnWalk
import Derived.Test.YtkhffoailfnepabGreatDoorStD
/-
  What the program's steps of the disk answer: headSteps, (areaStep).doneTo, allDoneTo.
  Conditions: the cells hold the texts, the pendings and the steps; the disk is right.
-/
namespace Go.Proofs.YtkhffoailfnepabGreatDoor
open Go.RowKit Go.Lib
set_option linter.unusedVariables false
set_option maxRecDepth 20000

set_option maxHeartbeats 1000000 in
theorem headSteps_any (g s z : Int) (w : World) (g0 : -9223372036854775808 ≤ g) (g1 : g ≤ 9223372036854775807) (s0 : -9223372036854775808 ≤ s) (s1 : s ≤ 9223372036854775807) (z0 : -9223372036854775808 ≤ z) (z1 : z ≤ 9223372036854775807) :
    Calls Tryz.prog 32 #[.agg #[.int .i64 g, .int .i64 s, .int .i64 z]] w fun e w' => ∃ b, w.heap.size ≤ b ∧ e = .returned (.slice (some ⟨b, 0, none⟩) 2 2) ∧ w'.heap[b]? = some (.cells #[.bool false, .int .i64 0, .string (headB g s z), .bool true, .int .i64 0, .string ByteArray.empty] 99 (0, 0)) ∧ Below w.heap.size w w' := by
  obtain ⟨W1, hW1⟩ : ∃ W1, W1 = w.alloc (.cells #[.int .i64 g, .int .i64 s, .int .i64 z] 49) := ⟨_, rfl⟩
  have HW1 : Hid (W1 = w.alloc (.cells #[.int .i64 g, .int .i64 s, .int .i64 z] 49)) := hW1
  have B1 : Below w.heap.size w W1 := by rw [hW1]; exact (Below.refl _ _).alloc (Nat.le_refl _) _
  have H1 := headText_any g s z W1 g0 g1 s0 s1 z0 z1
  generalize headB g s z = HT at *
  clear hW1
  go_enter Tryz.func32, Tryz.ntmps32
  go_wp2_with fail
  rw [← HW1.out]
  refine H1.mono ?_
  rintro e w2 ⟨rfl, b2⟩
  have B2 := chainB B1 b2
  have HE : Hid (Below w.heap.size w (w2.alloc (.cells #[.bool false, .int .i64 0, .string HT, .bool true, .int .i64 0, .string ⟨#[]⟩] 99))) := alB B2 _
  have HS : Hid (w.heap.size ≤ w2.heap.size) := B2.size
  clear B2 b2 B1 H1
  go_wp2_with fail
  go_ret
  exact ⟨_, HS.out, rfl, (MapKept.heap_alloc w2 _).1, HE.out⟩

def rawC (ss : List ByteArray) (ps : List Pnd) (sf : Bool) (sa : Nat) (st : ByteArray) : Int := if sf = true then flC ss ps else wrC ss ps (sa : Int) st
def rawS (ss : List ByteArray) (ps : List Pnd) (sf : Bool) (sa : Nat) (st : ByteArray) : List ByteArray := if sf = true then flS ss ps else wrS ss ps (sa : Int) st
def rawP (ss : List ByteArray) (ps : List Pnd) (sf : Bool) (sa : Nat) (st : ByteArray) : List Pnd := if sf = true then [] else wrP ss ps (sa : Int) st
set_option maxHeartbeats 2000000 in
theorem doneTo_raw (sf : Bool) (sa : Nat) (st : ByteArray) (q1 : Option Addr) (c1 : Nat) (ss : List ByteArray) (q2 : Option Addr) (c2 : Nat) (ps : List Pnd) (w : World) (h1 : TxtAt w q1 ss) (h2 : PndAt w q2 ps) (n1 : ss.length ≤ 1048576) (n2 : ps.length ≤ 1048576) (m1 : ss.length ≤ c1) (m2 : ps.length ≤ c2) (hs : st.size ≤ 1048576) :
    Calls Tryz.prog 63 #[.agg #[.bool sf, .int .i64 (sa : Int), .string st], .agg #[.slice q1 ss.length c1, .slice q2 ps.length c2]] w fun e w' => ∃ v1 v2, e = .returned (.agg #[v1, v2, .string ByteArray.empty, .int .i64 (rawC ss ps sf sa st)]) ∧ DskO w.heap.size (rawS ss ps sf sa st) (rawP ss ps sf sa st) v1 v2 w' ∧ Below w.heap.size w w' := by
  obtain ⟨W1, hW1⟩ : ∃ W1, W1 = w.alloc (.cells #[.bool sf, .int .i64 (sa : Int), .string st] 99) := ⟨_, rfl⟩
  obtain ⟨W2, hW2⟩ : ∃ W2, W2 = W1.alloc (.cells #[.slice q1 ss.length c1, .slice q2 ps.length c2] 26) := ⟨_, rfl⟩
  obtain ⟨W3, hW3⟩ : ∃ W3, W3 = W2.alloc (.cells #[.slice none 0 0, .slice none 0 0, .string ⟨#[]⟩, .int .i64 0] 66) := ⟨_, rfl⟩
  have HW3 : Hid (W3 = ((w.alloc (.cells #[.bool sf, .int .i64 (sa : Int), .string st] 99)).alloc (.cells #[.slice q1 ss.length c1, .slice q2 ps.length c2] 26)).alloc (.cells #[.slice none 0 0, .slice none 0 0, .string ⟨#[]⟩, .int .i64 0] 66)) := by rw [hW3, hW2, hW1]; exact rfl
  have S1 : W1.heap.size = w.heap.size + 1 := by rw [hW1]; simp
  have S2 : W2.heap.size = w.heap.size + 2 := by rw [hW2]; simp [S1]
  have S3 : W3.heap.size = w.heap.size + 3 := by rw [hW3]; simp [S2]
  have B1 : Below w.heap.size w W1 := by rw [hW1]; exact (Below.refl _ _).alloc (Nat.le_refl _) _
  have B2 : Below w.heap.size w W2 := by rw [hW2]; exact alB B1 _
  have B3 : Hid (Below w.heap.size w W3) := by rw [hW3]; exact alB B2 _
  have K1 : Bxs W1 w.heap.size 99 #[.bool sf, .int .i64 (sa : Int), .string st] := by rw [hW1]; exact Bxs.new _ _ _
  have K2 : Bxs W2 (w.heap.size + 1) 26 #[.slice q1 ss.length c1, .slice q2 ps.length c2] := by rw [hW2, ← S1]; exact Bxs.new _ _ _
  have K13 : Bxs W3 w.heap.size 99 #[.bool sf, .int .i64 (sa : Int), .string st] := by rw [hW3, hW2]; exact (K1.alloc _).alloc _
  have K23 : Bxs W3 (w.heap.size + 1) 26 #[.slice q1 ss.length c1, .slice q2 ps.length c2] := by rw [hW3]; exact K2.alloc _
  have K33 : Bxs W3 (w.heap.size + 2) 66 #[.slice none 0 0, .slice none 0 0, .string ByteArray.empty, .int .i64 0] := by rw [hW3, ← S2]; exact Bxs.new _ _ _
  have T1 := h1.below B3.out
  have T2 := h2.below B3.out
  have HR : Hid (∀ x, Below W3.heap.size W3 x → x.cell? ⟨w.heap.size + 2, 0, none⟩ = some (.slice none 0 0) ∧ x.cell? ⟨w.heap.size + 2, 1, none⟩ = some (.slice none 0 0) ∧ x.cell? ⟨w.heap.size + 2, 2, none⟩ = some (.string ByteArray.empty) ∧ x.cell? ⟨w.heap.size + 2, 3, none⟩ = some (.int .i64 0) ∧ x.frozen? ⟨w.heap.size + 2, 0, none⟩ = false ∧ x.frozen? ⟨w.heap.size + 2, 1, none⟩ = false ∧ x.frozen? ⟨w.heap.size + 2, 2, none⟩ = false ∧ x.frozen? ⟨w.heap.size + 2, 3, none⟩ = false) := fun x hb => by
    have k := K33.below hb
    exact ⟨k.cell 0, k.cell 1, k.cell 2, k.cell 3, k.fr 0, k.fr 1, k.fr 2, k.fr 3⟩
  have HQ : Hid (∀ (y : World) (p1 : Option Addr) (d1 : Nat) (p2 : Option Addr) (d2 : Nat) (RS : List ByteArray) (RP : List Pnd) (x0 x1 x2 x3 : Value), DskO W3.heap.size RS RP (.slice p1 RS.length d1) (.slice p2 RP.length d2) y → Below W3.heap.size W3 y → DskO w.heap.size RS RP (.slice p1 RS.length d1) (.slice p2 RP.length d2) ((((y.setCell ⟨w.heap.size + 2, 0, none⟩ x0).setCell ⟨w.heap.size + 2, 1, none⟩ x1).setCell ⟨w.heap.size + 2, 2, none⟩ x2).setCell ⟨w.heap.size + 2, 3, none⟩ x3) ∧ Below w.heap.size w ((((y.setCell ⟨w.heap.size + 2, 0, none⟩ x0).setCell ⟨w.heap.size + 2, 1, none⟩ x1).setCell ⟨w.heap.size + 2, 2, none⟩ x2).setCell ⟨w.heap.size + 2, 3, none⟩ x3)) := by
    intro y p1 d1 p2 d2 RS RP x0 x1 x2 x3 ho hb
    exact ⟨(ho.set4 (by omega) x0 x1 x2 x3).mono (by omega), below_set4 (chainB B3.out hb) (by omega) _ _ _ _⟩
  have a0 := K13.cell 0
  have a1 := K13.cell 1
  have a2 := K13.cell 2
  have a3 := K23.cell 0
  have a4 := K23.cell 1
  rw [HW3.out] at a0 a1 a2 a3 a4
  clear K1 K2 K13 K23 K33 B1 B2 hW1 hW2 hW3 S1 S2 h1 h2
  cases sf with
  | true =>
    obtain ⟨RS, hRS⟩ : ∃ RS, RS = flS ss ps := ⟨_, rfl⟩
    obtain ⟨C, hC⟩ : ∃ C, C = flC ss ps := ⟨_, rfl⟩
    have HE : Hid (flC ss ps = C ∧ flS ss ps = RS) := ⟨hC.symm, hRS.symm⟩
    have hF := implDiskFlush_any q1 c1 ss q2 c2 ps W3 T1 T2 n1 n2 m1 m2
    rw [← hRS, ← hC] at hF
    clear hRS hC T1 T2
    go_enter Tryz.func63, Tryz.ntmps63
    go_wp2_with fail
    rw [← HW3.out]
    refine hF.mono ?_
    rintro e y ⟨v1, rfl, ho, hb⟩
    obtain ⟨p1, d1, rfl, -, -⟩ := ownS_form ho.own1
    obtain ⟨r0, r1, r2, r3, f0, f1, f2, f3⟩ := HR.out y hb
    have HV : Hid _ := fun x0 x1 x2 x3 => HQ.out y p1 d1 none 0 RS [] x0 x1 x2 x3 ho hb
    clear a0 a1 a2 a3 a4 hF ho hb HR HQ
    go_wp2_with fail
    refine bodyPost_ret (v := .agg #[.slice p1 RS.length d1, .slice none 0 0, .string ByteArray.empty, .int .i64 C]) (by simp [results, Tryz.results63, go_sem, r0, r1, r2, r3]) rfl ?_
    show ∃ v1 v2, _ = Ending.returned (.agg #[v1, v2, _, .int .i64 (flC ss ps)]) ∧ DskO _ (flS ss ps) [] _ _ _ ∧ _
    rw [HE.out.1, HE.out.2]
    exact ⟨_, _, rfl, HV.out _ _ _ _⟩
  | false =>
    obtain ⟨RS, hRS⟩ : ∃ RS, RS = wrS ss ps (sa : Int) st := ⟨_, rfl⟩
    obtain ⟨RP, hRP⟩ : ∃ RP, RP = wrP ss ps (sa : Int) st := ⟨_, rfl⟩
    obtain ⟨C, hC⟩ : ∃ C, C = wrC ss ps (sa : Int) st := ⟨_, rfl⟩
    have HE : Hid (wrC ss ps (sa : Int) st = C ∧ wrS ss ps (sa : Int) st = RS ∧ wrP ss ps (sa : Int) st = RP) := ⟨hC.symm, hRS.symm, hRP.symm⟩
    have hF := implDiskWrite_any q1 c1 ss q2 c2 ps (sa : Int) st W3 T1 T2 n1 n2 m1 m2 hs
    rw [← hRS, ← hC, ← hRP] at hF
    clear hRS hC hRP T1 T2
    go_enter Tryz.func63, Tryz.ntmps63
    go_wp2_with fail
    rw [← HW3.out]
    refine hF.mono ?_
    rintro e y ⟨v1, v2, rfl, ho, hb⟩
    obtain ⟨p1, d1, rfl, -, -⟩ := ownS_form ho.own1
    obtain ⟨p2, d2, rfl, -, -⟩ := ownP_form ho.own2
    obtain ⟨r0, r1, r2, r3, f0, f1, f2, f3⟩ := HR.out y hb
    have HV : Hid _ := fun x0 x1 x2 x3 => HQ.out y p1 d1 p2 d2 RS RP x0 x1 x2 x3 ho hb
    clear a0 a1 a2 a3 a4 hF ho hb HR HQ
    go_wp2_with fail
    refine bodyPost_ret (v := .agg #[.slice p1 RS.length d1, .slice p2 RP.length d2, .string ByteArray.empty, .int .i64 C]) (by simp [results, Tryz.results63, go_sem, r0, r1, r2, r3]) rfl ?_
    show ∃ v1 v2, _ = Ending.returned (.agg #[v1, v2, _, .int .i64 (wrC ss ps (sa : Int) st)]) ∧ DskO _ (wrS ss ps (sa : Int) st) (wrP ss ps (sa : Int) st) _ _ _ ∧ _
    rw [HE.out.1, HE.out.2.1, HE.out.2.2]
    exact ⟨_, _, rfl, HV.out _ _ _ _⟩
theorem doneTo_any (s : Stp) (q1 : Option Addr) (c1 : Nat) (ss : List ByteArray) (q2 : Option Addr) (c2 : Nat) (ps : List Pnd) (w : World) (h1 : TxtAt w q1 ss) (h2 : PndAt w q2 ps) (n1 : ss.length ≤ 1048576) (n2 : ps.length ≤ 1048576) (m1 : ss.length ≤ c1) (m2 : ps.length ≤ c2) (hs : s.t.size ≤ 1048576) :
    Calls Tryz.prog 63 #[.agg #[.bool s.f, .int .i64 (s.a : Int), .string s.t], .agg #[.slice q1 ss.length c1, .slice q2 ps.length c2]] w fun e w' => ∃ v1 v2, e = .returned (.agg #[v1, v2, .string ByteArray.empty, .int .i64 (stpC ss ps s)]) ∧ DskO w.heap.size (stpS ss ps s) (stpP ss ps s) v1 v2 w' ∧ Below w.heap.size w w' := by
  have h := doneTo_raw s.f s.a s.t q1 c1 ss q2 c2 ps w h1 h2 n1 n2 m1 m2 hs
  cases s with
  | wr a t => exact h
  | fl => exact h
end Go.Proofs.YtkhffoailfnepabGreatDoor
/-
  What the program's allDoneTo answers: all steps, till one tells a code.
  Conditions: the cells hold the texts, the pendings and the steps; the disk is right.
-/
namespace Go.Proofs.YtkhffoailfnepabGreatDoor
open Go.RowKit Go.Lib
set_option linter.unusedVariables false
set_option maxRecDepth 20000

set_option maxHeartbeats 4000000 in
theorem allDoneTo_any (q1 : Option Addr) (c1 : Nat) (ss : List ByteArray) (q2 : Option Addr) (c2 : Nat) (ps : List Pnd) (sp : Option Addr) (sc : Nat) (L : List Stp) (w : World) (h1 : TxtAt w q1 ss) (h2 : PndAt w q2 ps) (h3 : StpAt w sp L) (hr : dskB ss ps = true) (m1 : ss.length ≤ c1) (m2 : ps.length ≤ c2) (m3 : L.length ≤ sc) (hL : L.length ≤ 1048576) (ht : ∀ s ∈ L, s.t.size ≤ 1048576) :
    Calls Tryz.prog 30 #[.agg #[.slice q1 ss.length c1, .slice q2 ps.length c2], .slice sp L.length sc] w fun e w' => ∃ v1 v2, e = .returned (.agg #[v1, v2, .string ByteArray.empty, .int .i64 0, .int .i64 (doC ss ps L)]) ∧ DskO w.heap.size (doS ss ps L) (doP ss ps L) v1 v2 w' ∧ Below w.heap.size w w' := by
  obtain ⟨W2, hW2⟩ : ∃ W2, W2 = (w.alloc (.cells #[.slice q1 ss.length c1, .slice q2 ps.length c2] 26)).alloc (.cells #[.slice none 0 0, .slice none 0 0, .string ⟨#[]⟩, .int .i64 0, .int .i64 0] 31) := ⟨_, rfl⟩
  have HW2 : Hid (W2 = (w.alloc (.cells #[.slice q1 ss.length c1, .slice q2 ps.length c2] 26)).alloc (.cells #[.slice none 0 0, .slice none 0 0, .string ⟨#[]⟩, .int .i64 0, .int .i64 0] 31)) := hW2
  have hs1 : (w.alloc (.cells #[.slice q1 ss.length c1, .slice q2 ps.length c2] 26)).heap.size = w.heap.size + 1 := by simp
  have S2 : W2.heap.size = w.heap.size + 2 := by rw [hW2]; simp
  have R0 : Bxs W2 w.heap.size 26 #[.slice q1 ss.length c1, .slice q2 ps.length c2] := by rw [hW2]; exact (Bxs.new _ _ _).alloc _
  have R1 : Bxs W2 (w.heap.size + 1) 31 #[.slice none 0 0, .slice none 0 0, .string ByteArray.empty, .int .i64 0, .int .i64 0] := by rw [hW2, ← hs1]; exact Bxs.new _ _ _
  have B2 : Hid (Below w.heap.size w W2) := by rw [hW2]; exact ((Below.refl _ _).alloc (Nat.le_refl _) _).alloc (by rw [hs1]; omega) _
  have U3 : Hid (∀ x, Below W2.heap.size W2 x → StpAt x sp L) := fun x hb => h3.below (chainB B2.out hb)
  have HR : Hid (∀ x, Below W2.heap.size W2 x → x.cell? ⟨w.heap.size + 1, 0, none⟩ = some (.slice none 0 0) ∧ x.cell? ⟨w.heap.size + 1, 1, none⟩ = some (.slice none 0 0) ∧ x.cell? ⟨w.heap.size + 1, 2, none⟩ = some (.string ByteArray.empty) ∧ x.cell? ⟨w.heap.size + 1, 3, none⟩ = some (.int .i64 0) ∧ x.cell? ⟨w.heap.size + 1, 4, none⟩ = some (.int .i64 0) ∧ x.frozen? ⟨w.heap.size + 1, 0, none⟩ = false ∧ x.frozen? ⟨w.heap.size + 1, 1, none⟩ = false ∧ x.frozen? ⟨w.heap.size + 1, 2, none⟩ = false ∧ x.frozen? ⟨w.heap.size + 1, 3, none⟩ = false ∧ x.frozen? ⟨w.heap.size + 1, 4, none⟩ = false) := fun x hb => by
    have k := R1.below hb
    exact ⟨k.cell 0, k.cell 1, k.cell 2, k.cell 3, k.cell 4, k.fr 0, k.fr 1, k.fr 2, k.fr 3, k.fr 4⟩
  have HSz : Hid (W2.heap.size = w.heap.size + 2) := S2
  have HT : Hid (∀ s ∈ L, s.t.size ≤ 1048576) := ht
  have HEr : Hid (∀ (y : World) (c : Int) (x0 x1 x2 x3 x4 : Value), Below W2.heap.size W2 y → doC ss ps L = c ∧ doS ss ps L = [] ∧ doP ss ps L = [] → ∃ v1 v2, Ending.returned (.agg #[.slice none 0 0, .slice none 0 0, .string ByteArray.empty, .int .i64 0, .int .i64 c]) = .returned (.agg #[v1, v2, .string ByteArray.empty, .int .i64 0, .int .i64 (doC ss ps L)]) ∧ DskO w.heap.size (doS ss ps L) (doP ss ps L) v1 v2 (((((y.setCell ⟨w.heap.size + 1, 0, none⟩ x0).setCell ⟨w.heap.size + 1, 1, none⟩ x1).setCell ⟨w.heap.size + 1, 2, none⟩ x2).setCell ⟨w.heap.size + 1, 3, none⟩ x3).setCell ⟨w.heap.size + 1, 4, none⟩ x4) ∧ Below w.heap.size w (((((y.setCell ⟨w.heap.size + 1, 0, none⟩ x0).setCell ⟨w.heap.size + 1, 1, none⟩ x1).setCell ⟨w.heap.size + 1, 2, none⟩ x2).setCell ⟨w.heap.size + 1, 3, none⟩ x3).setCell ⟨w.heap.size + 1, 4, none⟩ x4)) := by
    intro y c x0 x1 x2 x3 x4 hb ⟨e1, e2, e3⟩
    rw [e1, e2, e3]
    exact ⟨_, _, rfl, DskO.nil _ _, below_set5 (chainB B2.out hb) (by omega) _ _ _ _ _⟩
  obtain ⟨⟨p1, p2⟩, p3, p4, p5⟩ := dskB_parts hr
  have hC := copiedDisk_any q1 c1 ss q2 c2 ps W2 (h1.below B2.out) (h2.below B2.out) (by omega) (by omega) m1 m2 (fun x hx => by have := p4 x hx; omega) (fun p hp => by have := (p5 p hp).2; omega)
  have t0 := R0.cell 0
  have t1 := R0.cell 1
  rw [HW2.out] at t0 t1
  have HRt : Hid (dskB ss ps = true) := hr
  clear hW2 R0 R1 h1 h2 h3 hs1 S2 p4 p5 hr ht p1 p2 p3
  go_enter Tryz.func30, Tryz.ntmps30
  go_wp2_with fail
  rw [← HW2.out]
  refine hC.mono ?_
  rintro e y1 ⟨v1, v2, rfl, ho, b1⟩
  obtain ⟨a1, d1, rfl, -, -⟩ := ownS_form ho.own1
  obtain ⟨a2, d2, rfl, -, -⟩ := ownP_form ho.own2
  obtain ⟨W3, hW3⟩ : ∃ W3, W3 = y1.alloc (.cells #[.slice a1 ss.length d1, .slice a2 ps.length d2] 26) := ⟨_, rfl⟩
  have HW3 : Hid (W3 = y1.alloc (.cells #[.slice a1 ss.length d1, .slice a2 ps.length d2] 26)) := hW3
  have F0 : Hid (StD W2 y1.heap.size ss ps (.slice a1 ss.length d1) (.slice a2 ps.length d2) W3) := by
    rw [hW3]; exact ⟨alB b1 _, Bxs.new _ _ _, ho.below ((Below.refl _ _).alloc (Nat.le_refl _) _), b1.size⟩
  clear t0 t1 hC ho b1 hW3
  go_wp2_with fail
  rw [← HW3.out]
  go_loopw [13] (fun i wr => ∃ (k : Nat) (S : List ByteArray) (P : List Pnd) (v1 v2 : Value), k ≤ L.length ∧ i = .int .i64 k ∧ Hid (doC ss ps (L.take k) = 0 ∧ S = doS ss ps (L.take k) ∧ P = doP ss ps (L.take k) ∧ dskB S P = true) ∧ Hid (StD W2 y1.heap.size S P v1 v2 wr)) (fun i _ => L.length - (intOf i).toNat)
  case atStart => exact ⟨0, ss, ps, _, _, by omega, rfl, ⟨rfl, rfl, rfl, HRt.out⟩, F0⟩
  case round =>
    clear F0
    obtain ⟨k, S, P, v1, v2, hk, rfl, HK, HF⟩ := hrel
    obtain ⟨hk0, hkS, hkP, hkr⟩ := HK.out
    obtain ⟨e1, d1, rfl, j1, u1⟩ := ownS_form HF.out.own.own1
    obtain ⟨e2, d2, rfl, j2, u2⟩ := ownP_form HF.out.own.own2
    obtain ⟨x0, x1, x2, x3⟩ := HF.out.cells
    obtain ⟨⟨g1, g2⟩, g3, -, -⟩ := dskB_parts hkr
    by_cases hlt : k < L.length
    · obtain ⟨bp, op, rfl, hbp, z0, z1, z2⟩ := U3.out _ HF.out.bel k hlt
      have hsn := do_snoc hlt hk0
      rw [← hkS, ← hkP] at hsn
      have htk := HT.out _ (List.getElem_mem hlt)
      have hDn := fun (x : World) (hb : Below wr.heap.size wr x) => doneTo_any L[k] e1 d1 S e2 d2 P x (u1.below hb) (u2.below hb) (by omega) (by omega) j1 j2 htk
      have HDn : Hid (∀ (x : World), Below wr.heap.size wr x → _) := hDn
      have hrt : stpC S P L[k] = 0 → dskB (stpS S P L[k]) (stpP S P L[k]) = true := fun h => stp_right hkr h
      have HN : Hid (stpC S P L[k] = 0 → doC ss ps (L.take (k + 1)) = 0 ∧ stpS S P L[k] = doS ss ps (L.take (k + 1)) ∧ stpP S P L[k] = doP ss ps (L.take (k + 1)) ∧ dskB (stpS S P L[k]) (stpP S P L[k]) = true) := fun h => ⟨by rw [hsn.1]; exact h, (hsn.2 h).1.symm, (hsn.2 h).2.symm, hrt h⟩
      have HB : Hid (stpC S P L[k] ≠ 0 → doC ss ps L = stpC S P L[k] ∧ doS ss ps L = [] ∧ doP ss ps L = []) := fun h => do_all hlt hsn.1 h
      have i1 : (k : Int) < L.length := by omega
      clear hDn hsn hrt htk HK hk0 hkS hkP hkr
      generalize L[k] = s at *
      obtain ⟨C, hC⟩ : ∃ C, C = stpC S P s := ⟨_, rfl⟩
      rw [← hC] at HN HB HDn
      have W4 : Below wr.heap.size wr (wr.alloc (.cells #[.bool s.f, .int .i64 (s.a : Int), .string s.t] 99)) := (Below.refl _ _).alloc (Nat.le_refl _) _
      have y0 := (HF.out.below W4).cells
      obtain ⟨y0, y1', y2', y3'⟩ := y0
      have HD := HDn.out _ W4
      have HBx : Hid (StD W2 y1.heap.size S P (.slice e1 S.length d1) (.slice e2 P.length d2) (wr.alloc (.cells #[.bool s.f, .int .i64 (s.a : Int), .string s.t] 99))) := HF.out.below W4
      generalize s.f = sf at *
      generalize s.a = sa at *
      generalize s.t = st at *
      clear HDn W4
      go_wp2_with fail
      refine HD.mono ?_
      rintro e y5 ⟨vv1, vv2, rfl, ho, b5⟩
      obtain ⟨f1, n1, rfl, -, -⟩ := ownS_form ho.own1
      obtain ⟨f2, n2, rfl, -, -⟩ := ownP_form ho.own2
      obtain ⟨W6, hW6⟩ : ∃ W6, W6 = y5.alloc (.cells #[.slice f1 (stpS S P s).length n1, .slice f2 (stpP S P s).length n2, .string ByteArray.empty, .int .i64 C] 66) := ⟨_, rfl⟩
      have HW6 : Hid (W6 = y5.alloc (.cells #[.slice f1 (stpS S P s).length n1, .slice f2 (stpP S P s).length n2, .string ByteArray.empty, .int .i64 C] 66)) := hW6
      have b6 : Below y5.heap.size y5 W6 := by rw [hW6]; exact (Below.refl _ _).alloc (Nat.le_refl _) _
      have K6 : Bxs W6 y5.heap.size 66 #[.slice f1 (stpS S P s).length n1, .slice f2 (stpP S P s).length n2, .string ByteArray.empty, .int .i64 C] := by rw [hW6]; exact Bxs.new _ _ _
      have HF6 : Hid (StD W2 y1.heap.size S P (.slice e1 S.length d1) (.slice e2 P.length d2) W6) := (HBx.out.below b5).below b6
      have ho6 := ho.below b6
      have hX : y1.heap.size < (wr.alloc (.cells #[.bool sf, .int .i64 (sa : Int), .string st] 99)).heap.size := HBx.out.box.lt
      have HP6 : Hid (StD W2 y1.heap.size (stpS S P s) (stpP S P s) (.slice f1 (stpS S P s).length n1) (.slice f2 (stpP S P s).length n2) ((W6.setCell ⟨y1.heap.size, 0, none⟩ (.slice f1 (stpS S P s).length n1)).setCell ⟨y1.heap.size, 1, none⟩ (.slice f2 (stpP S P s).length n2))) := HF6.out.put ho6 hX
      have k0 := K6.cell 0
      have k1 := K6.cell 1
      have k3 := K6.cell 3
      obtain ⟨c0, c1', c2', c3'⟩ := HF6.out.cells
      obtain ⟨r0, r1, r2, r3, r4, q0, q1', q2', q3, q4⟩ := HR.out _ HF6.out.bel
      have HEE : Hid _ := fun (h : C ≠ 0) x0 x1 x2 x3 x4 => HEr.out W6 C x0 x1 x2 x3 x4 HF6.out.bel (HB.out h)
      clear HB HD x0 x1 x2 x3 y0 y1' y2' y3' z0 z1 z2 K6 b6 b5 ho ho6 hX HBx HF HF6 u1 u2
      by_cases hc0 : C = 0
      · obtain ⟨t1, t2, t3, t4⟩ := HN.out hc0
        have HK2 : Hid (doC ss ps (L.take (k + 1)) = 0 ∧ stpS S P s = doS ss ps (L.take (k + 1)) ∧ stpP S P s = doP ss ps (L.take (k + 1)) ∧ dskB (stpS S P s) (stpP S P s) = true) := ⟨t1, t2, t3, t4⟩
        generalize stpS S P s = S' at *
        generalize stpP S P s = P' at *
        subst hc0
        rw [hW6] at k0 k1 k3 c0 c1' c2' c3'
        rw [HW6.out] at HP6
        clear hC t1 t2 t3 t4 HN HEE r0 r1 r2 r3 r4 q0 q1' q2' q3 q4 hW6
        go_wp2_with fail
        go_roundw
        case rel => exact ⟨k + 1, S', P', _, _, by omega, by go_num, HK2, HP6⟩
        case measure => simp [intOf]; omega
      · have hc1 : (C == 0) = false := beq_eq_false_iff_ne.2 hc0
        have HE2 : Hid _ := HEE.out hc0
        generalize stpS S P s = S' at *
        generalize stpP S P s = P' at *
        rw [hW6] at k0 k1 k3 r0 r1 r2 r3 r4 q0 q1' q2' q3 q4
        rw [HW6.out] at HE2
        clear hC HN HEE c0 c1' c2' c3' hW6 HP6 hc0
        go_wp2_with fail
        refine bodyPost_ret (v := .agg #[.slice none 0 0, .slice none 0 0, .string ByteArray.empty, .int .i64 0, .int .i64 C]) (by simp [results, Tryz.results30, go_sem, r0, r1, r2, r3, r4]; rfl) rfl ?_
        exact HE2.out _ _ _ _ _
    · obtain rfl : k = L.length := by omega
      rw [List.take_of_length_le (Nat.le_refl _)] at hk0 hkS hkP
      obtain ⟨r0, r1, r2, r3, r4, f0, f1, f2, f3, f4⟩ := HR.out _ HF.out.bel
      have HE : Hid (∀ x0 x1 x2 x3 x4 : Value, DskO w.heap.size S P (.slice e1 S.length d1) (.slice e2 P.length d2) (((((wr.setCell ⟨w.heap.size + 1, 0, none⟩ x0).setCell ⟨w.heap.size + 1, 1, none⟩ x1).setCell ⟨w.heap.size + 1, 2, none⟩ x2).setCell ⟨w.heap.size + 1, 3, none⟩ x3).setCell ⟨w.heap.size + 1, 4, none⟩ x4) ∧ Below w.heap.size w (((((wr.setCell ⟨w.heap.size + 1, 0, none⟩ x0).setCell ⟨w.heap.size + 1, 1, none⟩ x1).setCell ⟨w.heap.size + 1, 2, none⟩ x2).setCell ⟨w.heap.size + 1, 3, none⟩ x3).setCell ⟨w.heap.size + 1, 4, none⟩ x4)) := fun x0 x1 x2 x3 x4 => by
        have hz := HSz.out
        exact ⟨(HF.out.own.set5 (by omega) x0 x1 x2 x3 x4).mono (by omega), below_set5 (chainB B2.out HF.out.bel) (by omega) _ _ _ _ _⟩
      have HV : Hid (doC ss ps L = 0 ∧ doS ss ps L = S ∧ doP ss ps L = P) := ⟨hk0, hkS.symm, hkP.symm⟩
      clear HF HR HK hk0 hkS hkP hkr HEr
      go_wp2_with fail
      refine bodyPost_ret (v := .agg #[.slice e1 S.length d1, .slice e2 P.length d2, .string ByteArray.empty, .int .i64 0, .int .i64 0]) (by simp [results, Tryz.results30, go_sem, r0, r1, r2, r3, r4]; rfl) rfl ?_
      rw [HV.out.1, HV.out.2.1, HV.out.2.2]
      exact ⟨_, _, rfl, HE.out _ _ _ _ _⟩
end Go.Proofs.YtkhffoailfnepabGreatDoor
