/-
  What the program's DiskRead answers: as the specification's.
  Conditions: the cells of Sectors and Pending hold the texts and the pendings.
-/
import Derived.Test.YthiokdiodgdamabRows
import Derived.Test.YthiokdiodgdamabBytes
import Derived.Test.YthiokdiodgdamabSlA
import Derived.Test.YthiokdiodgdamabSlB
import Derived.Test.YthiokdiodgdamabOwnS
import Derived.Test.YthiokdiodgdamabDskMath
import Derived.Test.YthiokdiodgdamabDskC
import Derived.Test.YthiokdiodgdamabDskT
import Derived.Test.YthiokdiodgdamabLawD
import Derived.Test.YthiokdiodgdamabDskMap
import Derived.Test.YthiokdiodgdamabImplDR
import Derived.Test.YthiokdiodgdamabImplDO
import Derived.Test.YthiokdiodgdamabImplDF
import Derived.Test.YthiokdiodgdamabImplDC
import Derived.Handy
import Derived.WalkSpells
import Derived.OwnWalk
namespace Go.Proofs.Ythiokdiodgdamab
open Go.RowKit Go.Lib
set_option linter.unusedVariables false
set_option maxRecDepth 20000

set_option maxHeartbeats 4000000 in
theorem implDiskRead_any (q1 : Option Addr) (c1 : Nat) (ss : List ByteArray) (q2 : Option Addr) (c2 : Nat) (ps : List Pnd) (at_ : Int) (w : World) (h1 : TxtAt w q1 ss) (h2 : PndAt w q2 ps) (n1 : ss.length ≤ 1048576) (n2 : ps.length ≤ 1048576) (m1 : ss.length ≤ c1) (m2 : ps.length ≤ c2) :
    Calls Try.prog 18 #[.agg #[.slice q1 ss.length c1, .slice q2 ps.length c2], .int .i64 at_] w fun e w' => ∃ v1 v2, e = .returned (.agg #[v1, v2, .string (rdT ss ps at_), .int .i64 (rdC ss ps at_)]) ∧ DskO w.heap.size (rdS ss ps at_) (rdP ss ps at_) v1 v2 w' ∧ Below w.heap.size w w' := by
  obtain ⟨W2, hW2⟩ : ∃ W2, W2 = (w.alloc (.cells #[.slice q1 ss.length c1, .slice q2 ps.length c2] 26)).alloc (.cells #[.slice none 0 0, .slice none 0 0, .string ⟨#[]⟩, .int .i64 0] 30) := ⟨_, rfl⟩
  have HW2 : Hid (W2 = (w.alloc (.cells #[.slice q1 ss.length c1, .slice q2 ps.length c2] 26)).alloc (.cells #[.slice none 0 0, .slice none 0 0, .string ⟨#[]⟩, .int .i64 0] 30)) := hW2
  have hs1 : (w.alloc (.cells #[.slice q1 ss.length c1, .slice q2 ps.length c2] 26)).heap.size = w.heap.size + 1 := by simp
  have S2 : W2.heap.size = w.heap.size + 2 := by rw [hW2]; simp
  have R0 : W2.heap[w.heap.size]? = some (.cells #[.slice q1 ss.length c1, .slice q2 ps.length c2] 26 (0, 0)) := by rw [hW2]; exact (Below.heap_alloc _ _ _ (by rw [hs1]; omega)).trans (MapKept.heap_alloc w _).1
  have R1 : W2.heap[w.heap.size + 1]? = some (.cells #[.slice none 0 0, .slice none 0 0, .string ByteArray.empty, .int .i64 0] 30 (0, 0)) := by rw [hW2, ← hs1]; exact (MapKept.heap_alloc _ _).1
  have B2 : Hid (Below w.heap.size w W2) := by rw [hW2]; exact ((Below.refl _ _).alloc (Nat.le_refl _) _).alloc (by rw [hs1]; omega) _
  have T1 : Hid (TxtAt W2 q1 ss) := h1.below B2.out
  have T2 : Hid (PndAt W2 q2 ps) := h2.below B2.out
  have HX : Hid (∀ x, Below W2.heap.size W2 x → x.cell? ⟨w.heap.size, 0, none⟩ = some (.slice q1 ss.length c1) ∧ x.cell? ⟨w.heap.size, 1, none⟩ = some (.slice q2 ps.length c2)) := fun x hb => by
    have h0 := (hb.block w.heap.size (by omega)).trans R0
    simp [World.cell?, h0]
  have HR : Hid (∀ x, Below W2.heap.size W2 x → x.cell? ⟨w.heap.size + 1, 0, none⟩ = some (.slice none 0 0) ∧ x.cell? ⟨w.heap.size + 1, 1, none⟩ = some (.slice none 0 0) ∧ x.cell? ⟨w.heap.size + 1, 2, none⟩ = some (.string ByteArray.empty) ∧ x.cell? ⟨w.heap.size + 1, 3, none⟩ = some (.int .i64 0) ∧ x.frozen? ⟨w.heap.size + 1, 0, none⟩ = false ∧ x.frozen? ⟨w.heap.size + 1, 1, none⟩ = false ∧ x.frozen? ⟨w.heap.size + 1, 2, none⟩ = false ∧ x.frozen? ⟨w.heap.size + 1, 3, none⟩ = false) := fun x hb => by
    have h1 := (hb.block (w.heap.size + 1) (by omega)).trans R1
    simp [World.cell?, World.frozen?, h1]
  have HEr : Hid (∀ (y : World) (c : Int) (x0 x1 x2 x3 : Value), Below W2.heap.size W2 y → rdC ss ps at_ = c → c ≠ 0 → ∃ v1 v2, Ending.returned (.agg #[.slice none 0 0, .slice none 0 0, .string ByteArray.empty, .int .i64 c]) = .returned (.agg #[v1, v2, .string (rdT ss ps at_), .int .i64 (rdC ss ps at_)]) ∧ DskO w.heap.size (rdS ss ps at_) (rdP ss ps at_) v1 v2 ((((y.setCell ⟨w.heap.size + 1, 0, none⟩ x0).setCell ⟨w.heap.size + 1, 1, none⟩ x1).setCell ⟨w.heap.size + 1, 2, none⟩ x2).setCell ⟨w.heap.size + 1, 3, none⟩ x3) ∧ Below w.heap.size w ((((y.setCell ⟨w.heap.size + 1, 0, none⟩ x0).setCell ⟨w.heap.size + 1, 1, none⟩ x1).setCell ⟨w.heap.size + 1, 2, none⟩ x2).setCell ⟨w.heap.size + 1, 3, none⟩ x3)) := by
    intro y c x0 x1 x2 x3 hb hc hn
    have hn' : ¬ rdC ss ps at_ = 0 := by rw [hc]; exact hn
    rw [show rdT ss ps at_ = ByteArray.empty from if_neg hn', show rdS ss ps at_ = [] from if_neg hn', show rdP ss ps at_ = [] from if_neg hn', hc]
    exact ⟨_, _, rfl, DskO.nil _ _, below_set4 (chainB B2.out hb) (by omega) _ _ _ _⟩
  have hD := implDiskRight_any q1 c1 ss q2 c2 ps W2 T1.out T2.out n1 n2 m1 m2
  obtain ⟨t0, t1⟩ := HX.out W2 (Below.refl _ _)
  have HSz : Hid (W2.heap.size = w.heap.size + 2) := S2
  clear hW2 R0 R1 h1 h2 hs1 S2
  cases hd : dskB ss ps with
  | false =>
    have hC : Hid (rdC ss ps at_ = 1) := if_neg (by rw [hd]; exact Bool.false_ne_true)
    rw [hd] at hD
    rw [HW2.out] at t0 t1
    clear hd T1 T2
    go_enter Try.func18, Try.ntmps18
    go_wp2_with fail
    rw [← HW2.out]
    refine hD.mono ?_
    rintro e y1 ⟨rfl, b1⟩
    have HE := fun x0 x1 x2 x3 => HEr.out y1 1 x0 x1 x2 x3 b1 hC.out (by omega)
    obtain ⟨r0, r1, r2, r3, f0, f1, f2, f3⟩ := HR.out y1 b1
    clear b1 HEr HR HX t0 t1
    go_wp2_with fail
    refine bodyPost_ret (v := .agg #[.slice none 0 0, .slice none 0 0, .string ByteArray.empty, .int .i64 1]) (by simp [results, Try.results18, go_sem, r0, r1, r2, r3]; rfl) rfl ?_
    exact HE _ _ _ _
  | true =>
  obtain ⟨⟨p1, p2⟩, p3, p4, p5⟩ := dskB_parts hd
  rw [hd] at hD
  have HI : Hid (∀ x, Calls Try.prog 27 #[.agg #[.slice q1 ss.length c1, .slice q2 ps.length c2], .int .i64 at_] x fun e w' => e = .returned (.bool (inB ss at_)) ∧ Below x.heap.size x w') := fun x => hasSector_any _ _ _ _ _ _ _ x
  rw [HW2.out] at t0 t1
  cases hi : inB ss at_ with
  | false =>
    have hC : Hid (rdC ss ps at_ = 8) := by show (if dskB ss ps = true then _ else _) = _; rw [if_pos hd, if_neg (by rw [hi]; exact Bool.false_ne_true)]
    rw [hi] at HI
    clear hd hi T1 T2 p4 p5
    go_enter Try.func18, Try.ntmps18
    go_wp2_with fail
    rw [← HW2.out]
    refine hD.mono ?_
    rintro e y1 ⟨rfl, b1⟩
    obtain ⟨x0, x1⟩ := HX.out y1 b1
    clear t0 t1
    go_wp2_with fail
    refine (HI.out _).mono ?_
    rintro e y2 ⟨rfl, b2⟩
    have b2 := chainB b1 b2
    have HE := fun x0 x1 x2 x3 => HEr.out y2 8 x0 x1 x2 x3 b2 hC.out (by omega)
    obtain ⟨r0, r1, r2, r3, f0, f1, f2, f3⟩ := HR.out y2 b2
    clear b1 b2 HEr HR HX x0 x1
    go_wp2_with fail
    refine bodyPost_ret (v := .agg #[.slice none 0 0, .slice none 0 0, .string ByteArray.empty, .int .i64 8]) (by simp [results, Try.results18, go_sem, r0, r1, r2, r3]; rfl) rfl ?_
    exact HE _ _ _ _
  | true =>
  have hC : rdC ss ps at_ = 0 := by show (if dskB ss ps = true then _ else _) = _; rw [if_pos hd, if_pos hi]
  have HV : Hid (rdT ss ps at_ = readB ss ps at_ ∧ rdS ss ps at_ = ss ∧ rdP ss ps at_ = ps ∧ rdC ss ps at_ = 0) := ⟨if_pos hC, if_pos hC, if_pos hC, hC⟩
  have hat : 0 ≤ at_ ∧ at_ ≤ (ss.length : Int) - 1 := by unfold inB at hi; rw [decide_eq_true_iff] at hi; exact hi
  rw [hi] at HI
  obtain ⟨A, rfl⟩ := Int.eq_ofNat_of_zero_le hat.1
  have hA : A < ss.length := by omega
  have H4 : Hid (∀ x ∈ ss, x.size ≤ 64) := p4
  have H5 : Hid (∀ p ∈ ps, pndOk ss.length p) := p5
  clear hd hi hC HEr hat p4 p5
  go_enter Try.func18, Try.ntmps18
  go_wp2_with fail
  rw [← HW2.out]
  refine hD.mono ?_
  rintro e y1 ⟨rfl, b1⟩
  obtain ⟨x0, x1⟩ := HX.out y1 b1
  clear t0 t1
  go_wp2_with fail
  refine (HI.out _).mono ?_
  rintro e y2 ⟨rfl, b2⟩
  have b2 := chainB b1 b2
  clear x0 x1 b1
  obtain ⟨x0, x1⟩ := HX.out y2 b2
  go_wp2_with fail
  refine (openDisk_any q1 ss.length c1 q2 c2 ps ss.length y2 (T2.out.below b2) n2 m2 n1 H5.out).mono ?_
  rintro e y3 ⟨M, D, rfl, hM, oM, hD3, b3⟩
  have b3 := chainB b2 b3
  clear x0 x1 b2
  obtain ⟨x0, x1⟩ := HX.out y3 b3
  go_wp2_with fail
  refine (copiedDisk_any q1 c1 ss q2 c2 ps y3 (T1.out.below b3) (T2.out.below b3) n1 n2 m1 m2 (fun x hx => by have := H4.out x hx; omega) (fun p hp => by have := (H5.out p hp).2; omega)).mono ?_
  rintro e y4 ⟨v1, v2, rfl, ho, b4⟩
  have oM4 := oM.kept (grown_below b4) (by simp)
  have hz := b3.size
  have b34 := b4
  have b4 := chainB b3 b4
  clear x0 x1 hz
  go_wp2_with fail
  refine (read_any q1 c1 ss M ps.length D ps A y4 (T1.out.below b4) m1 p2 oM4 hD3 hA H4.out H5.out).mono ?_
  rintro e y5 ⟨rfl, b5⟩
  have ho5 := (ho.below b5).mono (show w.heap.size + 2 ≤ y3.heap.size by have := b3.size; have := HSz.out; omega)
  have b5 := chainB b4 b5
  obtain ⟨o1, d1, rfl, -, -⟩ := ownS_form ho5.own1
  obtain ⟨o2, d2, rfl, -, -⟩ := ownP_form ho5.own2
  have HE : Hid (∀ x0 x1 x2 x3 : Value, DskO w.heap.size ss ps (.slice o1 ss.length d1) (.slice o2 ps.length d2) ((((y5.setCell ⟨w.heap.size + 1, 0, none⟩ x0).setCell ⟨w.heap.size + 1, 1, none⟩ x1).setCell ⟨w.heap.size + 1, 2, none⟩ x2).setCell ⟨w.heap.size + 1, 3, none⟩ x3) ∧ Below w.heap.size w ((((y5.setCell ⟨w.heap.size + 1, 0, none⟩ x0).setCell ⟨w.heap.size + 1, 1, none⟩ x1).setCell ⟨w.heap.size + 1, 2, none⟩ x2).setCell ⟨w.heap.size + 1, 3, none⟩ x3)) := fun x0 x1 x2 x3 => ⟨(ho5.set4 (by omega) x0 x1 x2 x3).mono (by omega), below_set4 (chainB B2.out b5) (by omega) _ _ _ _⟩
  obtain ⟨r0, r1, r2, r3, f0, f1, f2, f3⟩ := HR.out y5 b5
  clear b3 b4 b5 b34 HR HX ho ho5 oM oM4 hD3
  go_wp2_with fail
  refine bodyPost_ret (v := .agg #[.slice o1 ss.length d1, .slice o2 ps.length d2, .string (readB ss ps (A : Int)), .int .i64 0]) (by simp [results, Try.results18, go_sem, r0, r1, r2, r3]) rfl ?_
  obtain ⟨e1, e2, e3, e4⟩ := HV.out
  rw [e1, e2, e3, e4]
  exact ⟨_, _, rfl, HE.out _ _ _ _⟩

end Go.Proofs.Ythiokdiodgdamab
