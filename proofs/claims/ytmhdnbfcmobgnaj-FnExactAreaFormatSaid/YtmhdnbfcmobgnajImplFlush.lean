/-
  What the program's DiskFlush answers: as the specification's.
  Conditions: the cells of Sectors and Pending hold the texts and the pendings.
-/
import Derived.Test.YtmhdnbfcmobgnajRows
import Derived.Test.YtmhdnbfcmobgnajBytes
import Derived.Test.YtmhdnbfcmobgnajSlA
import Derived.Test.YtmhdnbfcmobgnajSlB
import Derived.Test.YtmhdnbfcmobgnajOwnS
import Derived.Test.YtmhdnbfcmobgnajDskMath
import Derived.Test.YtmhdnbfcmobgnajDskC
import Derived.Test.YtmhdnbfcmobgnajDskT
import Derived.Test.YtmhdnbfcmobgnajDskF
import Derived.Test.YtmhdnbfcmobgnajLawD
import Derived.Test.YtmhdnbfcmobgnajImplDR
import Derived.Test.YtmhdnbfcmobgnajImplDG
import Derived.Handy
import Derived.WalkSpells
import Derived.OwnWalk
namespace Go.Proofs.Ytmhdnbfcmobgnaj
open Go.RowKit Go.Lib
set_option linter.unusedVariables false
set_option maxRecDepth 20000

set_option maxHeartbeats 4000000 in
theorem implDiskFlush_any (q1 : Option Addr) (c1 : Nat) (ss : List ByteArray) (q2 : Option Addr) (c2 : Nat) (ps : List Pnd) (w : World) (h1 : TxtAt w q1 ss) (h2 : PndAt w q2 ps) (n1 : ss.length ≤ 1048576) (n2 : ps.length ≤ 1048576) (m1 : ss.length ≤ c1) (m2 : ps.length ≤ c2) :
    Calls Try.prog 18 #[.agg #[.slice q1 ss.length c1, .slice q2 ps.length c2]] w fun e w' => ∃ v1, e = .returned (.agg #[v1, .slice none 0 0, .string ByteArray.empty, .int .i64 (flC ss ps)]) ∧ DskO w.heap.size (flS ss ps) [] v1 (.slice none 0 0) w' ∧ Below w.heap.size w w' := by
  obtain ⟨W2, hW2⟩ : ∃ W2, W2 = (w.alloc (.cells #[.slice q1 ss.length c1, .slice q2 ps.length c2] 29)).alloc (.cells #[.slice none 0 0, .slice none 0 0, .string ⟨#[]⟩, .int .i64 0] 31) := ⟨_, rfl⟩
  have HW2 : Hid (W2 = (w.alloc (.cells #[.slice q1 ss.length c1, .slice q2 ps.length c2] 29)).alloc (.cells #[.slice none 0 0, .slice none 0 0, .string ⟨#[]⟩, .int .i64 0] 31)) := hW2
  have hs1 : (w.alloc (.cells #[.slice q1 ss.length c1, .slice q2 ps.length c2] 29)).heap.size = w.heap.size + 1 := by simp
  have S2 : W2.heap.size = w.heap.size + 2 := by rw [hW2]; simp
  have R0 : W2.heap[w.heap.size]? = some (.cells #[.slice q1 ss.length c1, .slice q2 ps.length c2] 29 (0, 0)) := by rw [hW2]; exact (Below.heap_alloc _ _ _ (by rw [hs1]; omega)).trans (MapKept.heap_alloc w _).1
  have R1 : W2.heap[w.heap.size + 1]? = some (.cells #[.slice none 0 0, .slice none 0 0, .string ByteArray.empty, .int .i64 0] 31 (0, 0)) := by rw [hW2, ← hs1]; exact (MapKept.heap_alloc _ _).1
  have B2 : Hid (Below w.heap.size w W2) := by rw [hW2]; exact ((Below.refl _ _).alloc (Nat.le_refl _) _).alloc (by rw [hs1]; omega) _
  have T1 : Hid (TxtAt W2 q1 ss) := h1.below B2.out
  have T2 : Hid (PndAt W2 q2 ps) := h2.below B2.out
  have HX : Hid (∀ x, Below W2.heap.size W2 x → x.cell? ⟨w.heap.size, 0, none⟩ = some (.slice q1 ss.length c1) ∧ x.cell? ⟨w.heap.size, 1, none⟩ = some (.slice q2 ps.length c2)) := fun x hb => by
    have h0 := (hb.block w.heap.size (by omega)).trans R0
    simp [World.cell?, h0]
  have HR : Hid (∀ x, Below W2.heap.size W2 x → x.cell? ⟨w.heap.size + 1, 0, none⟩ = some (.slice none 0 0) ∧ x.cell? ⟨w.heap.size + 1, 1, none⟩ = some (.slice none 0 0) ∧ x.cell? ⟨w.heap.size + 1, 2, none⟩ = some (.string ByteArray.empty) ∧ x.cell? ⟨w.heap.size + 1, 3, none⟩ = some (.int .i64 0) ∧ x.frozen? ⟨w.heap.size + 1, 0, none⟩ = false ∧ x.frozen? ⟨w.heap.size + 1, 1, none⟩ = false ∧ x.frozen? ⟨w.heap.size + 1, 2, none⟩ = false ∧ x.frozen? ⟨w.heap.size + 1, 3, none⟩ = false) := fun x hb => by
    have h1 := (hb.block (w.heap.size + 1) (by omega)).trans R1
    simp [World.cell?, World.frozen?, h1]
  have hD := implDiskRight_any q1 c1 ss q2 c2 ps W2 T1.out T2.out n1 n2 m1 m2
  obtain ⟨t0, t1⟩ := HX.out W2 (Below.refl _ _)
  have HSz : Hid (W2.heap.size = w.heap.size + 2) := S2
  clear hW2 R0 R1 h1 h2 hs1 S2
  rw [HW2.out] at t0 t1
  cases hd : dskB ss ps with
  | false =>
    have hC : Hid (flC ss ps = 1 ∧ flS ss ps = []) := ⟨if_neg (by rw [hd]; exact Bool.false_ne_true), if_neg (by rw [hd]; exact Bool.false_ne_true)⟩
    rw [hd] at hD
    clear hd T1 T2
    go_enter Try.func18, Try.ntmps18
    go_wp2_with fail
    rw [← HW2.out]
    refine hD.mono ?_
    rintro e y1 ⟨rfl, b1⟩
    have HE : Hid (∀ x0 x1 x2 x3 : Value, Below w.heap.size w ((((y1.setCell ⟨w.heap.size + 1, 0, none⟩ x0).setCell ⟨w.heap.size + 1, 1, none⟩ x1).setCell ⟨w.heap.size + 1, 2, none⟩ x2).setCell ⟨w.heap.size + 1, 3, none⟩ x3)) := fun x0 x1 x2 x3 => below_set4 (chainB B2.out b1) (by omega) _ _ _ _
    obtain ⟨r0, r1, r2, r3, f0, f1, f2, f3⟩ := HR.out y1 b1
    clear b1 HR HX t0 t1
    go_wp2_with fail
    refine bodyPost_ret (v := .agg #[.slice none 0 0, .slice none 0 0, .string ByteArray.empty, .int .i64 1]) (by simp [results, Try.results18, go_sem, r0, r1, r2, r3]; rfl) rfl ?_
    rw [hC.out.1, hC.out.2]
    exact ⟨_, rfl, DskO.nil _ _, HE.out _ _ _ _⟩
  | true =>
  obtain ⟨⟨p1, p2⟩, p3, p4, p5⟩ := dskB_parts hd
  have HV : Hid (flC ss ps = 0 ∧ flS ss ps = flushB ss ps) := ⟨if_pos hd, if_pos hd⟩
  have H4 : Hid (∀ x ∈ ss, x.size ≤ 64) := p4
  have H5 : Hid (∀ p ∈ ps, pndOk ss.length p) := p5
  rw [hd] at hD
  clear hd p4 p5
  go_enter Try.func18, Try.ntmps18
  go_wp2_with fail
  rw [← HW2.out]
  refine hD.mono ?_
  rintro e y1 ⟨rfl, b1⟩
  obtain ⟨x0, x1⟩ := HX.out y1 b1
  clear t0 t1
  go_wp2_with fail
  refine (flushed_any q1 c1 ss q2 c2 ps y1 (T1.out.below b1) (T2.out.below b1) p1 p2 n2 m1 m2 H4.out H5.out).mono ?_
  rintro e y2 ⟨v1, rfl, ho, b2⟩
  have ho2 := ho.mono (show w.heap.size + 2 ≤ y1.heap.size by have := b1.size; have := HSz.out; omega)
  have b2 := chainB b1 b2
  obtain ⟨o1, d1, rfl, -, -⟩ := ownS_form ho2.own1
  have HE : Hid (∀ x0 x1 x2 x3 : Value, DskO w.heap.size (flushB ss ps) [] (.slice o1 (flushB ss ps).length d1) (.slice none 0 0) ((((y2.setCell ⟨w.heap.size + 1, 0, none⟩ x0).setCell ⟨w.heap.size + 1, 1, none⟩ x1).setCell ⟨w.heap.size + 1, 2, none⟩ x2).setCell ⟨w.heap.size + 1, 3, none⟩ x3) ∧ Below w.heap.size w ((((y2.setCell ⟨w.heap.size + 1, 0, none⟩ x0).setCell ⟨w.heap.size + 1, 1, none⟩ x1).setCell ⟨w.heap.size + 1, 2, none⟩ x2).setCell ⟨w.heap.size + 1, 3, none⟩ x3)) := fun x0 x1 x2 x3 => ⟨(ho2.set4 (by omega) x0 x1 x2 x3).mono (by omega), below_set4 (chainB B2.out b2) (by omega) _ _ _ _⟩
  obtain ⟨r0, r1, r2, r3, f0, f1, f2, f3⟩ := HR.out y2 b2
  clear b1 b2 HR HX ho ho2 x0 x1
  go_wp2_with fail
  refine bodyPost_ret (v := .agg #[.slice o1 (flushB ss ps).length d1, .slice none 0 0, .string ByteArray.empty, .int .i64 0]) (by simp [results, Try.results18, go_sem, r0, r1, r2, r3]; rfl) rfl ?_
  rw [HV.out.1, HV.out.2]
  exact ⟨_, rfl, HE.out _ _ _ _⟩
end Go.Proofs.Ytmhdnbfcmobgnaj
