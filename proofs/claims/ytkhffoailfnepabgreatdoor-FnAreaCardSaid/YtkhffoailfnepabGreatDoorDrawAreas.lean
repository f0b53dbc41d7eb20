/-
  What DrawAreaPut, DrawAreaFormat and DrawAreaRead draw: some disk of bounded sizes (and a text, and a number).
-/
import Derived.Test.YtkhffoailfnepabGreatDoorRows
import Derived.Test.YtkhffoailfnepabGreatDoorBytesDigMath
import Derived.Test.YtkhffoailfnepabGreatDoorSlASlBOwnSOwnBSrc
import Derived.Test.YtkhffoailfnepabGreatDoorDrawsDrawKitDskMath
import Derived.Test.YtkhffoailfnepabGreatDoorDskRAppSStepAppDskA
import Derived.Test.YtkhffoailfnepabGreatDoorDskSDskCDskT
import Derived.Test.YtkhffoailfnepabGreatDoorDskFDskK
import Derived.Test.YtkhffoailfnepabGreatDoorLawDLwDskLwArLawIPutMathPutNum
import Derived.Test.YtkhffoailfnepabGreatDoorFourSealAreaAAreaF
import Derived.Test.YtkhffoailfnepabGreatDoorImplCrashSomeLawDGDrawDsk
import Derived.Test.YtkhffoailfnepabGreatDoorDrawDskF
import Derived.Test.YtkhffoailfnepabGreatDoorDrawDskG
import Derived.Test.YtkhffoailfnepabGreatDoorDrawKeepDrawDisksDrawArFSpoilT
import Derived.Test.YtkhffoailfnepabGreatDoorDrawAr
import Derived.Handy
import Derived.WalkSpells
import Derived.OwnWalk
import Derived.Deep.RegionWith
import Derived.Deep.Cut
import Derived.Deep.CutRange
namespace Go.Proofs.YtkhffoailfnepabGreatDoor
open Go.RowKit Go.Lib
set_option linter.unusedVariables false
set_option maxRecDepth 20000

def DrawnP (w : World) (e : Ending) (w' : World) : Prop :=
  (∃ (q1 : Option Addr) (c1 : Nat) (q2 : Option Addr) (c2 : Nat) (ss : List ByteArray) (ps : List Pnd) (t : ByteArray) (k : Int), e = .returned (.tuple #[.agg #[.slice q1 ss.length c1, .slice q2 ps.length c2], .string t, .int .i64 k]) ∧ TxtAt w' q1 ss ∧ PndAt w' q2 ps ∧ ss.length ≤ c1 ∧ ps.length ≤ c2 ∧ t.size ≤ 3000 ∧ SmallD ss ps) ∧ Below w.heap.size w w'
def DrawnO (w : World) (e : Ending) (w' : World) : Prop :=
  (∃ (q1 : Option Addr) (c1 : Nat) (q2 : Option Addr) (c2 : Nat) (ss : List ByteArray) (ps : List Pnd), e = .returned (.agg #[.slice q1 ss.length c1, .slice q2 ps.length c2]) ∧ TxtAt w' q1 ss ∧ PndAt w' q2 ps ∧ ss.length ≤ c1 ∧ ps.length ≤ c2 ∧ SmallD ss ps) ∧ Below w.heap.size w w'
theorem roomB_le (ss : List ByteArray) (ps : List Pnd) (h : ss.length ≤ 64) : roomB ss ps ≤ 2048 := by
  unfold roomB; split
  · unfold sideN; omega
  · omega
set_option maxHeartbeats 4000000 in
theorem drawARead_any (B : Nat) (a : Option Addr) (len cap : Nat) (w : World) (hlen : len ≤ 1048576) (hB : B ≤ w.heap.size) (hc : CodeAt B a len w) :
    Calls Tryz.prog 7 #[.slice a len cap] w (DrawnO w) := by
  obtain ⟨W1, hW1⟩ : ∃ W1, W1 = w.alloc (.cells #[.slice none 0 0, .slice none 0 0] 26) := ⟨_, rfl⟩
  have HW1 : Hid (W1 = w.alloc (.cells #[.slice none 0 0, .slice none 0 0] 26)) := hW1
  have B1 : Hid (Below w.heap.size w W1) := by rw [hW1]; exact (Below.refl _ _).alloc (Nat.le_refl _) _
  have R1 : Hid (Bxs W1 w.heap.size 26 #[.slice none 0 0, .slice none 0 0]) := by rw [hW1]; exact Bxs.new _ _ _
  have z1 : W1.heap.size = w.heap.size + 1 := by rw [hW1]; simp
  have HZ1 : Hid (W1.heap.size = w.heap.size + 1) := z1
  have HC : Hid (CodeAt B a len W1) := hc.below (B1.out.mono hB)
  have hB1 : B ≤ W1.heap.size := by omega
  clear hW1 hc z1
  go_enter Tryz.func7, Tryz.ntmps7
  go_wp2_with fail
  rw [← HW1.out]
  refine (source_any B a len cap W1 hlen hB1 HC.out).mono ?_
  rintro e w1 ⟨rfl, hs1, hb1⟩
  have HB1 : Hid (Below W1.heap.size W1 w1) := hb1
  have H1 : Hid (Src 81 B W1.heap.size a len cap w1) := hs1
  have HRes : Hid (∀ x, w1.grownBy x (some W1.heap.size) → x.cell? ⟨w.heap.size, 0, none⟩ = some (.slice none 0 0) ∧ x.cell? ⟨w.heap.size, 1, none⟩ = some (.slice none 0 0) ∧ x.frozen? ⟨w.heap.size, 0, none⟩ = false ∧ x.frozen? ⟨w.heap.size, 1, none⟩ = false) := fun x hg => by
    have hz := HZ1.out
    have k : Bxs x w.heap.size 26 #[.slice none 0 0, .slice none 0 0] := (hg.block w.heap.size (by have := HB1.out.size; omega) (fun e => by simp at e; omega)).trans ((HB1.out.block w.heap.size (by omega)).trans R1.out)
    exact ⟨k.cell 0, k.cell 1, k.fr 0, k.fr 1⟩
  clear hs1 hb1
  have HEnd : Hid (∀ (x : World) (v1 v2 : Value) (ss : List ByteArray) (ps : List Pnd) (y0 y1 : Value), w1.grownBy x (some W1.heap.size) → DskO w1.heap.size ss ps v1 v2 x → SmallD ss ps → DrawnO w (.returned (.agg #[v1, v2])) ((x.setCell ⟨w.heap.size, 0, none⟩ y0).setCell ⟨w.heap.size, 1, none⟩ y1)) := by
    intro x v1 v2 ss ps y0 y1 hg ho hsm
    have hz := HZ1.out
    have hz1 := HB1.out.size
    have o1 := (ho.set2 (g := w.heap.size) (by omega) y0 y1)
    obtain ⟨q1, c1, rfl, m1, t1⟩ := ownS_form o1.own1
    obtain ⟨q2, c2, rfl, m2, t2⟩ := ownP_form o1.own2
    refine ⟨⟨q1, c1, q2, c2, ss, ps, rfl, t1, t2, m1, m2, hsm⟩, ?_⟩
    have b := below_touch (chainB B1.out HB1.out) hg (by omega)
    exact (b.setCell (Nat.le_refl _) _).setCell (Nat.le_refl _) _
  go_wp2_with fail
  refine (l06Disk_any B W1.heap.size a len cap w1 H1.out).mono ?_
  rintro e w9 ⟨⟨v1, v2, ss, ps, rfl, ho, l1, l2, l3, l4⟩, hs9, hg9⟩
  have hgr := hg9
  have ho := ho.mono (Nat.le_refl _)
  obtain ⟨q1, c1, rfl, -, -⟩ := ownS_form ho.own1
  obtain ⟨q2, c2, rfl, -, -⟩ := ownP_form ho.own2
  obtain ⟨r0, r1, g0, g1⟩ := HRes.out _ hgr
  have HE : Hid _ := fun y0 y1 => HEnd.out w9 (.slice q1 ss.length c1) (.slice q2 ps.length c2) ss ps y0 y1 hgr ho ⟨l1, l2, l3, l4⟩
  clear HRes HEnd ho hs9 hg9 hgr l3 l4
  go_wp2_with fail
  refine bodyPost_ret (v := .agg #[.slice q1 ss.length c1, .slice q2 ps.length c2]) (by simp [results, Tryz.results7, go_sem, r0, r1]) rfl ?_
  exact HE.out _ _
set_option maxHeartbeats 4000000 in
theorem drawAFormat_any (B : Nat) (a : Option Addr) (len cap : Nat) (w : World) (hlen : len ≤ 1048576) (hB : B ≤ w.heap.size) (hc : CodeAt B a len w) :
    Calls Tryz.prog 6 #[.slice a len cap] w (DrawnO w) := by
  obtain ⟨W1, hW1⟩ : ∃ W1, W1 = w.alloc (.cells #[.slice none 0 0, .slice none 0 0] 26) := ⟨_, rfl⟩
  have HW1 : Hid (W1 = w.alloc (.cells #[.slice none 0 0, .slice none 0 0] 26)) := hW1
  have B1 : Hid (Below w.heap.size w W1) := by rw [hW1]; exact (Below.refl _ _).alloc (Nat.le_refl _) _
  have R1 : Hid (Bxs W1 w.heap.size 26 #[.slice none 0 0, .slice none 0 0]) := by rw [hW1]; exact Bxs.new _ _ _
  have z1 : W1.heap.size = w.heap.size + 1 := by rw [hW1]; simp
  have HZ1 : Hid (W1.heap.size = w.heap.size + 1) := z1
  have HC : Hid (CodeAt B a len W1) := hc.below (B1.out.mono hB)
  have hB1 : B ≤ W1.heap.size := by omega
  clear hW1 hc z1
  go_enter Tryz.func6, Tryz.ntmps6
  go_wp2_with fail
  rw [← HW1.out]
  refine (source_any B a len cap W1 hlen hB1 HC.out).mono ?_
  rintro e w1 ⟨rfl, hs1, hb1⟩
  have HB1 : Hid (Below W1.heap.size W1 w1) := hb1
  have H1 : Hid (Src 81 B W1.heap.size a len cap w1) := hs1
  have HRes : Hid (∀ x, w1.grownBy x (some W1.heap.size) → x.cell? ⟨w.heap.size, 0, none⟩ = some (.slice none 0 0) ∧ x.cell? ⟨w.heap.size, 1, none⟩ = some (.slice none 0 0) ∧ x.frozen? ⟨w.heap.size, 0, none⟩ = false ∧ x.frozen? ⟨w.heap.size, 1, none⟩ = false) := fun x hg => by
    have hz := HZ1.out
    have k : Bxs x w.heap.size 26 #[.slice none 0 0, .slice none 0 0] := (hg.block w.heap.size (by have := HB1.out.size; omega) (fun e => by simp at e; omega)).trans ((HB1.out.block w.heap.size (by omega)).trans R1.out)
    exact ⟨k.cell 0, k.cell 1, k.fr 0, k.fr 1⟩
  clear hs1 hb1
  have HEnd : Hid (∀ (x : World) (v1 v2 : Value) (ss : List ByteArray) (ps : List Pnd) (y0 y1 : Value), w1.grownBy x (some W1.heap.size) → DskO w1.heap.size ss ps v1 v2 x → SmallD ss ps → DrawnO w (.returned (.agg #[v1, v2])) ((x.setCell ⟨w.heap.size, 0, none⟩ y0).setCell ⟨w.heap.size, 1, none⟩ y1)) := by
    intro x v1 v2 ss ps y0 y1 hg ho hsm
    have hz := HZ1.out
    have hz1 := HB1.out.size
    have o1 := (ho.set2 (g := w.heap.size) (by omega) y0 y1)
    obtain ⟨q1, c1, rfl, m1, t1⟩ := ownS_form o1.own1
    obtain ⟨q2, c2, rfl, m2, t2⟩ := ownP_form o1.own2
    refine ⟨⟨q1, c1, q2, c2, ss, ps, rfl, t1, t2, m1, m2, hsm⟩, ?_⟩
    have b := below_touch (chainB B1.out HB1.out) hg (by omega)
    exact (b.setCell (Nat.le_refl _) _).setCell (Nat.le_refl _) _
  go_wp2_with fail
  refine (one_any B W1.heap.size a len cap 2 w1 H1.out (by omega)).mono ?_
  rintro e w2 ⟨⟨bo, rfl⟩, hs2, hg2⟩
  have H2 : Hid (Src 81 B W1.heap.size a len cap w2) := hs2
  have G2 : Hid (w1.grownBy w2 (some W1.heap.size)) := hg2
  clear hs2 hg2 H1
  cases bo
  · go_wp2_with fail
    refine (l06Disk_any B W1.heap.size a len cap w2 H2.out).mono ?_
    rintro e w9 ⟨⟨v1, v2, ss, ps, rfl, ho, l1, l2, l3, l4⟩, hs9, hg9⟩
    have hgr := touch_trans G2.out hg9
    have ho := ho.mono G2.out.size
    obtain ⟨q1, c1, rfl, -, -⟩ := ownS_form ho.own1
    obtain ⟨q2, c2, rfl, -, -⟩ := ownP_form ho.own2
    obtain ⟨r0, r1, g0, g1⟩ := HRes.out _ hgr
    have HE : Hid _ := fun y0 y1 => HEnd.out w9 (.slice q1 ss.length c1) (.slice q2 ps.length c2) ss ps y0 y1 hgr ho ⟨l1, l2, l3, l4⟩
    clear HRes HEnd ho hs9 hg9 hgr l3 l4
    go_wp2_with fail
    refine bodyPost_ret (v := .agg #[.slice q1 ss.length c1, .slice q2 ps.length c2]) (by simp [results, Tryz.results6, go_sem, r0, r1]) rfl ?_
    exact HE.out _ _
  · go_wp2_with fail
    refine (l05Disk_any B W1.heap.size a len cap w2 H2.out).mono ?_
    rintro e w9 ⟨⟨v1, v2, ss, ps, rfl, ho, l1, l2, l3, l4⟩, hs9, hg9⟩
    have hgr := touch_trans G2.out hg9
    have ho := ho.mono G2.out.size
    obtain ⟨q1, c1, rfl, -, -⟩ := ownS_form ho.own1
    obtain ⟨q2, c2, rfl, -, -⟩ := ownP_form ho.own2
    obtain ⟨r0, r1, g0, g1⟩ := HRes.out _ hgr
    have HE : Hid _ := fun y0 y1 => HEnd.out w9 (.slice q1 ss.length c1) (.slice q2 ps.length c2) ss ps y0 y1 hgr ho ⟨l1, l2, l3, l4⟩
    clear HRes HEnd ho hs9 hg9 hgr l3 l4
    go_wp2_with fail
    refine bodyPost_ret (v := .agg #[.slice q1 ss.length c1, .slice q2 ps.length c2]) (by simp [results, Tryz.results6, go_sem, r0, r1]) rfl ?_
    exact HE.out _ _
set_option maxHeartbeats 4000000 in
theorem drawAPut_any (B : Nat) (a : Option Addr) (len cap : Nat) (w : World) (hlen : len ≤ 1048576) (hB : B ≤ w.heap.size) (hc : CodeAt B a len w) :
    Calls Tryz.prog 5 #[.slice a len cap] w (DrawnP w) := by
  obtain ⟨W1, hW1⟩ : ∃ W1, W1 = w.alloc (.cells #[.slice none 0 0, .slice none 0 0] 26) := ⟨_, rfl⟩
  have HW1 : Hid (W1 = w.alloc (.cells #[.slice none 0 0, .slice none 0 0] 26)) := hW1
  have B1 : Hid (Below w.heap.size w W1) := by rw [hW1]; exact (Below.refl _ _).alloc (Nat.le_refl _) _
  have R1 : Hid (Bxs W1 w.heap.size 26 #[.slice none 0 0, .slice none 0 0]) := by rw [hW1]; exact Bxs.new _ _ _
  have z1 : W1.heap.size = w.heap.size + 1 := by rw [hW1]; simp
  have HZ1 : Hid (W1.heap.size = w.heap.size + 1) := z1
  have HC : Hid (CodeAt B a len W1) := hc.below (B1.out.mono hB)
  have hB1 : B ≤ W1.heap.size := by omega
  clear hW1 hc z1
  go_enter Tryz.func5, Tryz.ntmps5
  go_wp2_with fail
  rw [← HW1.out]
  refine (source_any B a len cap W1 hlen hB1 HC.out).mono ?_
  rintro e w1 ⟨rfl, hs1, hb1⟩
  have HB1 : Hid (Below W1.heap.size W1 w1) := hb1
  have H1 : Hid (Src 81 B W1.heap.size a len cap w1) := hs1
  have HRes : Hid (∀ x, w1.grownBy x (some W1.heap.size) → x.cell? ⟨w.heap.size, 0, none⟩ = some (.slice none 0 0) ∧ x.cell? ⟨w.heap.size, 1, none⟩ = some (.slice none 0 0) ∧ x.frozen? ⟨w.heap.size, 0, none⟩ = false ∧ x.frozen? ⟨w.heap.size, 1, none⟩ = false) := fun x hg => by
    have hz := HZ1.out
    have k : Bxs x w.heap.size 26 #[.slice none 0 0, .slice none 0 0] := (hg.block w.heap.size (by have := HB1.out.size; omega) (fun e => by simp at e; omega)).trans ((HB1.out.block w.heap.size (by omega)).trans R1.out)
    exact ⟨k.cell 0, k.cell 1, k.fr 0, k.fr 1⟩
  clear hs1 hb1
  go_wp2_with fail
  refine (l06Disk_any B W1.heap.size a len cap w1 H1.out).mono ?_
  rintro e w2 ⟨⟨v1, v2, ss, ps, rfl, ho, l1, l2, l3, l4⟩, hs2, hg2⟩
  obtain ⟨q1, c1, rfl, m1, -⟩ := ownS_form ho.own1
  obtain ⟨q2, c2, rfl, m2, -⟩ := ownP_form ho.own2
  have HSm : Hid (SmallD ss ps) := ⟨l1, l2, l3, l4⟩
  have hpw := H1.out.lt
  have HD : Hid (DrS w1 B W1.heap.size a len cap w2.heap.size (.slice q1 ss.length c1) (.slice q2 ps.length c2) ss ps (w2.alloc (.cells #[.slice q1 ss.length c1, .slice q2 ps.length c2] 26))) := DrS.boxed hs2 hg2 hpw ho
  obtain ⟨X, hX⟩ : ∃ X, X = w2.heap.size := ⟨_, rfl⟩
  have HEnd : Hid (∀ (x : World) (t : ByteArray) (k : Int) (y0 y1 : Value), DrS w1 B W1.heap.size a len cap X (.slice q1 ss.length c1) (.slice q2 ps.length c2) ss ps x → t.size ≤ 3000 → DrawnP w (.returned (.tuple #[.agg #[.slice q1 ss.length c1, .slice q2 ps.length c2], .string t, .int .i64 k])) ((x.setCell ⟨w.heap.size, 0, none⟩ y0).setCell ⟨w.heap.size, 1, none⟩ y1)) := by
    intro x t k y0 y1 h ht
    have hz := HZ1.out
    have hz1 := HB1.out.size
    have o1 := (h.dsk.set2 (g := w.heap.size) (by omega) y0 y1)
    obtain ⟨_, _, e1, -, t1⟩ := ownS_form o1.own1
    obtain ⟨_, _, e2, -, t2⟩ := ownP_form o1.own2
    cases e1; cases e2
    refine ⟨⟨q1, c1, q2, c2, ss, ps, t, k, rfl, t1, t2, m1, m2, ht, HSm.out⟩, ?_⟩
    have b := below_touch (chainB B1.out HB1.out) h.gr (by omega)
    exact (b.setCell (Nat.le_refl _) _).setCell (Nat.le_refl _) _
  have QN8 : Hid (∀ x, DrS w1 B W1.heap.size a len cap X (.slice q1 ss.length c1) (.slice q2 ps.length c2) ss ps x → Calls Tryz.prog 23 #[.pointer (some ⟨W1.heap.size, 0, none⟩), .int .i64 8] x fun e x1 => ∃ r : Int, e = .returned (.int .i64 r) ∧ 0 ≤ r ∧ r < 8 ∧ DrS w1 B W1.heap.size a len cap X (.slice q1 ss.length c1) (.slice q2 ps.length c2) ss ps x1) := fun x h => (n_any B W1.heap.size a len cap 8 x h.src (by omega)).mono (by
    rintro e x1 ⟨⟨r, rfl, r0, r1, _⟩, s1, g1⟩
    exact ⟨r, rfl, r0, r1 (by omega), h.step s1 g1⟩)
  rw [← hX] at HD
  have HRl := roomB_le ss ps l1
  clear ho hs2 hg2 hpw l3 l4
  go_wp2_with fail
  rw [← hX]
  refine (n_any B W1.heap.size a len cap 90 _ HD.out.src (by omega)).mono ?_
  rintro e w4 ⟨⟨r9, rfl, r90, r91, -⟩, hs4, hg4⟩
  have r92 := r91 (by omega)
  have HD4 : Hid (DrS w1 B W1.heap.size a len cap X (.slice q1 ss.length c1) (.slice q2 ps.length c2) ss ps w4) := HD.out.step hs4 hg4
  clear HD hs4 hg4 hX r91
  go_wp2_with fail
  refine (bytes_any B W1.heap.size a len cap r9 _ HD4.out.src (by omega)).mono ?_
  rintro e w5 ⟨⟨t, rfl, ht⟩, hs5, hg5⟩
  have HD5 : Hid (DrS w1 B W1.heap.size a len cap X (.slice q1 ss.length c1) (.slice q2 ps.length c2) ss ps w5) := HD4.out.step hs5 hg5
  have ht3 : t.size ≤ 3000 := by omega
  clear HD4 hs5 hg5 ht
  go_wp2_with fail
  refine (one_any B W1.heap.size a len cap 8 _ HD5.out.src (by omega)).mono ?_
  rintro e w6 ⟨⟨bo, rfl⟩, hs6, hg6⟩
  have HD6 : Hid (DrS w1 B W1.heap.size a len cap X (.slice q1 ss.length c1) (.slice q2 ps.length c2) ss ps w6) := HD5.out.step hs6 hg6
  clear HD5 hs6 hg6
  go_upto_if 17 with fail
  go_cut [7] from 18 to 24 (fun s7 wx => ∃ t : ByteArray, s7 = .string t ∧ t.size ≤ 3000 ∧ Hid (DrS w1 B W1.heap.size a len cap X (.slice q1 ss.length c1) (.slice q2 ps.length c2) ss ps wx))
  case first =>
    cases bo
    · go_wp2_with fail
      go_meet
      exact ⟨t, rfl, ht3, HD6⟩
    · obtain ⟨k0, k1, -, -⟩ := HD6.out.cells
      have hrd := HD6.out.dsk.read
      have hrm := specAreaRoom_any q1 c1 ss q2 c2 ps w6 hrd.1 hrd.2 (by omega) (by omega) m1 m2
      obtain ⟨M, hM⟩ : ∃ M, M = roomB ss ps := ⟨_, rfl⟩
      rw [← hM] at hrm HRl
      clear hrd hM
      go_wp2_with fail
      refine hrm.mono ?_
      rintro e w7 ⟨rfl, b7⟩
      have HD7 : Hid (DrS w1 B W1.heap.size a len cap X (.slice q1 ss.length c1) (.slice q2 ps.length c2) ss ps w7) := HD6.out.below b7
      clear b7 HD6 k0 k1 hrm
      go_wp2_with fail
      refine (n_any B W1.heap.size a len cap 2 _ HD7.out.src (by omega)).mono ?_
      rintro e w8 ⟨⟨r2, rfl, r20, r21, -⟩, hs8, hg8⟩
      have r22 := r21 (by omega)
      obtain ⟨R, rfl⟩ := Int.eq_ofNat_of_zero_le r20
      have HD8 : Hid (DrS w1 B W1.heap.size a len cap X (.slice q1 ss.length c1) (.slice q2 ps.length c2) ss ps w8) := HD7.out.step hs8 hg8
      have hmk := run_make_u8s (M + R) (by omega) w8
      rw [show ((M + R : Nat) : Int) = (M : Int) + (R : Int) by omega] at hmk
      have hzc := zconv (M + R) w8
      have hwr : IntKind.i64.wrap ((M : Int) + (R : Int)) = (M : Int) + (R : Int) := by rw [IntKind.wrap_i64]; omega
      have HZs : (strOfNums (List.replicate (M + R) 0)).size ≤ 3000 := by rw [strOfNums_size, List.length_replicate]; omega
      have HD9 : Hid (DrS w1 B W1.heap.size a len cap X (.slice q1 ss.length c1) (.slice q2 ps.length c2) ss ps (w8.alloc (.cells (zrow (M + R)).toArray 5))) := HD8.out.al _
      clear HD7 HD8 hs8 hg8 r21 r20
      go_wp2_with fail
      go_meet
      exact ⟨_, rfl, HZs, HD9⟩
  case rest =>
    clear HD6 ht3
    obtain ⟨u, rfl, hu, HDu⟩ := hcut
    obtain ⟨k0, k1, -, -⟩ := HDu.out.cells
    obtain ⟨r0, r1, f0, f1⟩ := HRes.out _ HDu.out.gr
    go_wp2_with fail
    go_region_with (first
      | (go_at_call 23; refine (QN8.out _ (by first | exact HDu.out | exact HDu.out.drew)).mono ?_; rintro e x1 ⟨r8, rfl, r80, r81, t1⟩; obtain ⟨k2, k3, -, -⟩ := t1.cells; obtain ⟨v0, v1, g0, g1⟩ := HRes.out _ t1.gr; have hwr : IntKind.i64.wrap (r8 - 1) = r8 - 1 := (by rw [IntKind.wrap_i64]; omega)))
    all_goals
      have HE : Hid _ := fun y0 y1 => HEnd.out x1 u (r8 - 1) y0 y1 t1 hu
      clear HEnd HRes QN8 t1
      go_wp2_with fail
      refine bodyPost_ret (v := .tuple #[.agg #[.slice q1 ss.length c1, .slice q2 ps.length c2], .string u, .int .i64 (r8 - 1)]) (by simp [results, Tryz.results5, go_sem, v0, v1]) rfl ?_
      exact HE.out _ _
end Go.Proofs.YtkhffoailfnepabGreatDoor
