/-
  What the program's steps of the disk answer: headSteps, (areaStep).doneTo, allDoneTo.
  Conditions: the cells hold the texts, the pendings and the steps; the disk is right.
-/
import Derived.Test.YtkhffoailfnepakGreatDoorRows
import Derived.Test.YtkhffoailfnepakGreatDoorBytesDigMath
import Derived.Test.YtkhffoailfnepakGreatDoorSlASlBOwnSDskMath
import Derived.Test.YtkhffoailfnepakGreatDoorAppSStepAppDskA
import Derived.Test.YtkhffoailfnepakGreatDoorDskCDskRDskS
import Derived.Test.YtkhffoailfnepakGreatDoorDskT
import Derived.Test.YtkhffoailfnepakGreatDoorDskW
import Derived.Test.YtkhffoailfnepakGreatDoorDskFDskKDskLaw
import Derived.Test.YtkhffoailfnepakGreatDoorLawD
import Derived.Test.YtkhffoailfnepakGreatDoorStpMathAreaPutM
import Derived.Test.YtkhffoailfnepakGreatDoorPutTextAreaAAreaF
import Derived.Test.YtkhffoailfnepakGreatDoorStDCopiedImplDC
import Derived.Test.YtkhffoailfnepakGreatDoorImplDW
import Derived.Test.YtkhffoailfnepakGreatDoorImplFlushImplSt
import Derived.Handy
import Derived.WalkSpells
import Derived.OwnWalk
namespace Go.Proofs.YtkhffoailfnepakGreatDoor
open Go.RowKit Go.Lib
set_option linter.unusedVariables false
set_option maxRecDepth 20000

set_option maxHeartbeats 1000000 in
theorem headSteps_any (g s z : Int) (w : World) (g0 : -9223372036854775808 ≤ g) (g1 : g ≤ 9223372036854775807) (s0 : -9223372036854775808 ≤ s) (s1 : s ≤ 9223372036854775807) (z0 : -9223372036854775808 ≤ z) (z1 : z ≤ 9223372036854775807) :
    Calls Tryz.prog 50 #[.agg #[.int .i64 g, .int .i64 s, .int .i64 z]] w fun e w' => ∃ b, w.heap.size ≤ b ∧ e = .returned (.slice (some ⟨b, 0, none⟩) 2 2) ∧ w'.heap[b]? = some (.cells #[.bool false, .int .i64 0, .string (headB g s z), .bool true, .int .i64 0, .string ByteArray.empty] 93 (0, 0)) ∧ Below w.heap.size w w' := by
  obtain ⟨W1, hW1⟩ : ∃ W1, W1 = w.alloc (.cells #[.int .i64 g, .int .i64 s, .int .i64 z] 85) := ⟨_, rfl⟩
  have HW1 : Hid (W1 = w.alloc (.cells #[.int .i64 g, .int .i64 s, .int .i64 z] 85)) := hW1
  have B1 : Below w.heap.size w W1 := by rw [hW1]; exact (Below.refl _ _).alloc (Nat.le_refl _) _
  have H1 := headText_any g s z W1 g0 g1 s0 s1 z0 z1
  generalize headB g s z = HT at *
  clear hW1
  go_enter Tryz.func50, Tryz.ntmps50
  go_wp2_with fail
  rw [← HW1.out]
  refine H1.mono ?_
  rintro e w2 ⟨rfl, b2⟩
  have B2 := chainB B1 b2
  have HE : Hid (Below w.heap.size w (w2.alloc (.cells #[.bool false, .int .i64 0, .string HT, .bool true, .int .i64 0, .string ⟨#[]⟩] 93))) := alB B2 _
  have HS : Hid (w.heap.size ≤ w2.heap.size) := B2.size
  clear B2 b2 B1 H1
  go_wp2_with fail
  go_ret
  exact ⟨_, HS.out, rfl, (MapKept.heap_alloc w2 _).1, HE.out⟩

def rawC (ss : List ByteArray) (ps : List Pnd) (sf : Bool) (sa : Nat) (st : ByteArray) : Int := if sf = true then flC ss ps else wrC ss ps (sa : Int) st
def rawS (ss : List ByteArray) (ps : List Pnd) (sf : Bool) (sa : Nat) (st : ByteArray) : List ByteArray := if sf = true then flS ss ps else wrS ss ps (sa : Int) st
def rawP (ss : List ByteArray) (ps : List Pnd) (sf : Bool) (sa : Nat) (st : ByteArray) : List Pnd := if sf = true then [] else wrP ss ps (sa : Int) st
set_option maxHeartbeats 2000000 in
theorem doneTo_raw (sf : Bool) (sa : Nat) (st : ByteArray) (q1 : Option Addr) (c1 : Nat) (ss : List ByteArray) (q2 : Option Addr) (c2 : Nat) (ps : List Pnd) (w : World) (h1 : TxtAt w q1 ss) (h2 : PndAt w q2 ps) (n1 : ss.length ≤ 1048576) (n2 : ps.length ≤ 1048576) (m1 : ss.length ≤ c1) (m2 : ps.length ≤ c2) (hs : st.size ≤ 1048576) :
    Calls Tryz.prog 54 #[.agg #[.bool sf, .int .i64 (sa : Int), .string st], .agg #[.slice q1 ss.length c1, .slice q2 ps.length c2]] w fun e w' => ∃ v1 v2, e = .returned (.agg #[v1, v2, .string ByteArray.empty, .int .i64 (rawC ss ps sf sa st)]) ∧ DskO w.heap.size (rawS ss ps sf sa st) (rawP ss ps sf sa st) v1 v2 w' ∧ Below w.heap.size w w' := by
  obtain ⟨W1, hW1⟩ : ∃ W1, W1 = w.alloc (.cells #[.bool sf, .int .i64 (sa : Int), .string st] 93) := ⟨_, rfl⟩
  obtain ⟨W2, hW2⟩ : ∃ W2, W2 = W1.alloc (.cells #[.slice q1 ss.length c1, .slice q2 ps.length c2] 29) := ⟨_, rfl⟩
  obtain ⟨W3, hW3⟩ : ∃ W3, W3 = W2.alloc (.cells #[.slice none 0 0, .slice none 0 0, .string ⟨#[]⟩, .int .i64 0] 49) := ⟨_, rfl⟩
  have HW3 : Hid (W3 = ((w.alloc (.cells #[.bool sf, .int .i64 (sa : Int), .string st] 93)).alloc (.cells #[.slice q1 ss.length c1, .slice q2 ps.length c2] 29)).alloc (.cells #[.slice none 0 0, .slice none 0 0, .string ⟨#[]⟩, .int .i64 0] 49)) := by rw [hW3, hW2, hW1]; exact rfl
  have S1 : W1.heap.size = w.heap.size + 1 := by rw [hW1]; simp
  have S2 : W2.heap.size = w.heap.size + 2 := by rw [hW2]; simp [S1]
  have S3 : W3.heap.size = w.heap.size + 3 := by rw [hW3]; simp [S2]
  have B1 : Below w.heap.size w W1 := by rw [hW1]; exact (Below.refl _ _).alloc (Nat.le_refl _) _
  have B2 : Below w.heap.size w W2 := by rw [hW2]; exact alB B1 _
  have B3 : Hid (Below w.heap.size w W3) := by rw [hW3]; exact alB B2 _
  have K1 : Bxs W1 w.heap.size 93 #[.bool sf, .int .i64 (sa : Int), .string st] := by rw [hW1]; exact Bxs.new _ _ _
  have K2 : Bxs W2 (w.heap.size + 1) 29 #[.slice q1 ss.length c1, .slice q2 ps.length c2] := by rw [hW2, ← S1]; exact Bxs.new _ _ _
  have K13 : Bxs W3 w.heap.size 93 #[.bool sf, .int .i64 (sa : Int), .string st] := by rw [hW3, hW2]; exact (K1.alloc _).alloc _
  have K23 : Bxs W3 (w.heap.size + 1) 29 #[.slice q1 ss.length c1, .slice q2 ps.length c2] := by rw [hW3]; exact K2.alloc _
  have K33 : Bxs W3 (w.heap.size + 2) 49 #[.slice none 0 0, .slice none 0 0, .string ByteArray.empty, .int .i64 0] := by rw [hW3, ← S2]; exact Bxs.new _ _ _
  have T1 := h1.below B3.out
  have T2 := h2.below B3.out
  have HR : Hid (∀ x, Below W3.heap.size W3 x → x.cell? ⟨w.heap.size + 2, 0, none⟩ = some (.slice none 0 0) ∧ x.cell? ⟨w.heap.size + 2, 1, none⟩ = some (.slice none 0 0) ∧ x.cell? ⟨w.heap.size + 2, 2, none⟩ = some (.string ByteArray.empty) ∧ x.cell? ⟨w.heap.size + 2, 3, none⟩ = some (.int .i64 0) ∧ x.frozen? ⟨w.heap.size + 2, 0, none⟩ = false ∧ x.frozen? ⟨w.heap.size + 2, 1, none⟩ = false ∧ x.frozen? ⟨w.heap.size + 2, 2, none⟩ = false ∧ x.frozen? ⟨w.heap.size + 2, 3, none⟩ = false) := fun x hb => by
    have k := K33.below hb
    exact ⟨k.cell 0, k.cell 1, k.cell 2, k.cell 3, k.fr 0, k.fr 1, k.fr 2, k.fr 3⟩
  have HQ : Hid (∀ (y : World) (p1 : Option Addr) (d1 : Nat) (p2 : Option Addr) (d2 : Nat) (RS : List ByteArray) (RP : List Pnd) (x0 x1 x2 x3 : Value), DskO W3.heap.size RS RP (.slice p1 RS.length d1) (.slice p2 RP.length d2) y → Below W3.heap.size W3 y → DskO w.heap.size RS RP (.slice p1 RS.length d1) (.slice p2 RP.length d2) ((((y.setCell ⟨w.heap.size + 2, 0, none⟩ x0).setCell ⟨w.heap.size + 2, 1, none⟩ x1).setCell ⟨w.heap.size + 2, 2, none⟩ x2).setCell ⟨w.heap.size + 2, 3, none⟩ x3) ∧ Below w.heap.size w ((((y.setCell ⟨w.heap.size + 2, 0, none⟩ x0).setCell ⟨w.heap.size + 2, 1, none⟩ x1).setCell ⟨w.heap.size + 2, 2, none⟩ x2).setCell ⟨w.heap.size + 2, 3, none⟩ x3)) := by
    intro y p1 d1 p2 d2 RS RP x0 x1 x2 x3 ho hb
    exact ⟨(ho.set4 (by omega) x0 x1 x2 x3).mono (by omega), below_set4 (chainB B3.out hb) (by omega) _ _ _ _⟩
  have a0 := K13.cell 0
  have a1 := K13.cell 1
  have a2 := K13.cell 2
  have a3 := K23.cell 0
  have a4 := K23.cell 1
  rw [HW3.out] at a0 a1 a2 a3 a4
  clear K1 K2 K13 K23 K33 B1 B2 hW1 hW2 hW3 S1 S2 h1 h2
  cases sf with
  | true =>
    obtain ⟨RS, hRS⟩ : ∃ RS, RS = flS ss ps := ⟨_, rfl⟩
    obtain ⟨C, hC⟩ : ∃ C, C = flC ss ps := ⟨_, rfl⟩
    have HE : Hid (flC ss ps = C ∧ flS ss ps = RS) := ⟨hC.symm, hRS.symm⟩
    have hF := implDiskFlush_any q1 c1 ss q2 c2 ps W3 T1 T2 n1 n2 m1 m2
    rw [← hRS, ← hC] at hF
    clear hRS hC T1 T2
    go_enter Tryz.func54, Tryz.ntmps54
    go_wp2_with fail
    rw [← HW3.out]
    refine hF.mono ?_
    rintro e y ⟨v1, rfl, ho, hb⟩
    obtain ⟨p1, d1, rfl, -, -⟩ := ownS_form ho.own1
    obtain ⟨r0, r1, r2, r3, f0, f1, f2, f3⟩ := HR.out y hb
    have HV : Hid _ := fun x0 x1 x2 x3 => HQ.out y p1 d1 none 0 RS [] x0 x1 x2 x3 ho hb
    clear a0 a1 a2 a3 a4 hF ho hb HR HQ
    go_wp2_with fail
    refine bodyPost_ret (v := .agg #[.slice p1 RS.length d1, .slice none 0 0, .string ByteArray.empty, .int .i64 C]) (by simp [results, Tryz.results54, go_sem, r0, r1, r2, r3]) rfl ?_
    show ∃ v1 v2, _ = Ending.returned (.agg #[v1, v2, _, .int .i64 (flC ss ps)]) ∧ DskO _ (flS ss ps) [] _ _ _ ∧ _
    rw [HE.out.1, HE.out.2]
    exact ⟨_, _, rfl, HV.out _ _ _ _⟩
  | false =>
    obtain ⟨RS, hRS⟩ : ∃ RS, RS = wrS ss ps (sa : Int) st := ⟨_, rfl⟩
    obtain ⟨RP, hRP⟩ : ∃ RP, RP = wrP ss ps (sa : Int) st := ⟨_, rfl⟩
    obtain ⟨C, hC⟩ : ∃ C, C = wrC ss ps (sa : Int) st := ⟨_, rfl⟩
    have HE : Hid (wrC ss ps (sa : Int) st = C ∧ wrS ss ps (sa : Int) st = RS ∧ wrP ss ps (sa : Int) st = RP) := ⟨hC.symm, hRS.symm, hRP.symm⟩
    have hF := implDiskWrite_any q1 c1 ss q2 c2 ps (sa : Int) st W3 T1 T2 n1 n2 m1 m2 hs
    rw [← hRS, ← hC, ← hRP] at hF
    clear hRS hC hRP T1 T2
    go_enter Tryz.func54, Tryz.ntmps54
    go_wp2_with fail
    rw [← HW3.out]
    refine hF.mono ?_
    rintro e y ⟨v1, v2, rfl, ho, hb⟩
    obtain ⟨p1, d1, rfl, -, -⟩ := ownS_form ho.own1
    obtain ⟨p2, d2, rfl, -, -⟩ := ownP_form ho.own2
    obtain ⟨r0, r1, r2, r3, f0, f1, f2, f3⟩ := HR.out y hb
    have HV : Hid _ := fun x0 x1 x2 x3 => HQ.out y p1 d1 p2 d2 RS RP x0 x1 x2 x3 ho hb
    clear a0 a1 a2 a3 a4 hF ho hb HR HQ
    go_wp2_with fail
    refine bodyPost_ret (v := .agg #[.slice p1 RS.length d1, .slice p2 RP.length d2, .string ByteArray.empty, .int .i64 C]) (by simp [results, Tryz.results54, go_sem, r0, r1, r2, r3]) rfl ?_
    show ∃ v1 v2, _ = Ending.returned (.agg #[v1, v2, _, .int .i64 (wrC ss ps (sa : Int) st)]) ∧ DskO _ (wrS ss ps (sa : Int) st) (wrP ss ps (sa : Int) st) _ _ _ ∧ _
    rw [HE.out.1, HE.out.2.1, HE.out.2.2]
    exact ⟨_, _, rfl, HV.out _ _ _ _⟩
theorem doneTo_any (s : Stp) (q1 : Option Addr) (c1 : Nat) (ss : List ByteArray) (q2 : Option Addr) (c2 : Nat) (ps : List Pnd) (w : World) (h1 : TxtAt w q1 ss) (h2 : PndAt w q2 ps) (n1 : ss.length ≤ 1048576) (n2 : ps.length ≤ 1048576) (m1 : ss.length ≤ c1) (m2 : ps.length ≤ c2) (hs : s.t.size ≤ 1048576) :
    Calls Tryz.prog 54 #[.agg #[.bool s.f, .int .i64 (s.a : Int), .string s.t], .agg #[.slice q1 ss.length c1, .slice q2 ps.length c2]] w fun e w' => ∃ v1 v2, e = .returned (.agg #[v1, v2, .string ByteArray.empty, .int .i64 (stpC ss ps s)]) ∧ DskO w.heap.size (stpS ss ps s) (stpP ss ps s) v1 v2 w' ∧ Below w.heap.size w w' := by
  have h := doneTo_raw s.f s.a s.t q1 c1 ss q2 c2 ps w h1 h2 n1 n2 m1 m2 hs
  cases s with
  | wr a t => exact h
  | fl => exact h
end Go.Proofs.YtkhffoailfnepakGreatDoor
