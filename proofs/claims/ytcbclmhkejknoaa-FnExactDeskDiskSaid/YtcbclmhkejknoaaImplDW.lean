/-
  What the program's DiskWrite answers: as the specification's.
  Conditions: the cells of Sectors and Pending hold the texts and the pendings.
-/
import Derived.Test.YtcbclmhkejknoaaRows
import Derived.Test.YtcbclmhkejknoaaBytes
import Derived.Test.YtcbclmhkejknoaaJoined
import Derived.Test.YtcbclmhkejknoaaSlA
import Derived.Test.YtcbclmhkejknoaaSlB
import Derived.Test.YtcbclmhkejknoaaOwnS
import Derived.Test.YtcbclmhkejknoaaOwnB
import Derived.Test.YtcbclmhkejknoaaStepApp
import Derived.Test.YtcbclmhkejknoaaDskMath
import Derived.Test.YtcbclmhkejknoaaDskA
import Derived.Test.YtcbclmhkejknoaaDskC
import Derived.Test.YtcbclmhkejknoaaDskT
import Derived.Test.YtcbclmhkejknoaaDskW
import Derived.Test.YtcbclmhkejknoaaLawD
import Derived.Test.YtcbclmhkejknoaaImplDR
import Derived.Test.YtcbclmhkejknoaaImplDC
import Derived.Handy
import Derived.WalkSpells
import Derived.OwnWalk
import Derived.Deep.RegionLaw
namespace Go.Proofs.Ytcbclmhkejknoaa
open Go.RowKit Go.Lib
set_option linter.unusedVariables false
set_option maxRecDepth 20000

set_option maxHeartbeats 4000000 in
theorem implDiskWrite_any (q1 : Option Addr) (c1 : Nat) (ss : List ByteArray) (q2 : Option Addr) (c2 : Nat) (ps : List Pnd) (at_ : Int) (data : ByteArray) (w : World) (h1 : TxtAt w q1 ss) (h2 : PndAt w q2 ps) (n1 : ss.length ≤ 1048576) (n2 : ps.length ≤ 1048576) (m1 : ss.length ≤ c1) (m2 : ps.length ≤ c2) (hdt : data.size ≤ 1048576) :
    Calls Try.prog 44 #[.agg #[.slice q1 ss.length c1, .slice q2 ps.length c2], .int .i64 at_, .string data] w fun e w' => ∃ v1 v2, e = .returned (.agg #[v1, v2, .string ByteArray.empty, .int .i64 (wrC ss ps at_ data)]) ∧ DskO w.heap.size (wrS ss ps at_ data) (wrP ss ps at_ data) v1 v2 w' ∧ Below w.heap.size w w' := by
  obtain ⟨W2, hW2⟩ : ∃ W2, W2 = (w.alloc (.cells #[.slice q1 ss.length c1, .slice q2 ps.length c2] 25)).alloc (.cells #[.slice none 0 0, .slice none 0 0, .string ⟨#[]⟩, .int .i64 0] 41) := ⟨_, rfl⟩
  have HW2 : Hid (W2 = (w.alloc (.cells #[.slice q1 ss.length c1, .slice q2 ps.length c2] 25)).alloc (.cells #[.slice none 0 0, .slice none 0 0, .string ⟨#[]⟩, .int .i64 0] 41)) := hW2
  have hs1 : (w.alloc (.cells #[.slice q1 ss.length c1, .slice q2 ps.length c2] 25)).heap.size = w.heap.size + 1 := by simp
  have S2 : W2.heap.size = w.heap.size + 2 := by rw [hW2]; simp
  have R0 : W2.heap[w.heap.size]? = some (.cells #[.slice q1 ss.length c1, .slice q2 ps.length c2] 25 (0, 0)) := by rw [hW2]; exact (Below.heap_alloc _ _ _ (by rw [hs1]; omega)).trans (MapKept.heap_alloc w _).1
  have R1 : W2.heap[w.heap.size + 1]? = some (.cells #[.slice none 0 0, .slice none 0 0, .string ByteArray.empty, .int .i64 0] 41 (0, 0)) := by rw [hW2, ← hs1]; exact (MapKept.heap_alloc _ _).1
  have B2 : Hid (Below w.heap.size w W2) := by rw [hW2]; exact ((Below.refl _ _).alloc (Nat.le_refl _) _).alloc (by rw [hs1]; omega) _
  have T1 : Hid (TxtAt W2 q1 ss) := h1.below B2.out
  have T2 : Hid (PndAt W2 q2 ps) := h2.below B2.out
  have HX : Hid (∀ x, Below W2.heap.size W2 x → x.cell? ⟨w.heap.size, 0, none⟩ = some (.slice q1 ss.length c1) ∧ x.cell? ⟨w.heap.size, 1, none⟩ = some (.slice q2 ps.length c2)) := fun x hb => by
    have h0 := (hb.block w.heap.size (by omega)).trans R0
    simp [World.cell?, h0]
  have HR : Hid (∀ x, Below W2.heap.size W2 x → x.cell? ⟨w.heap.size + 1, 0, none⟩ = some (.slice none 0 0) ∧ x.cell? ⟨w.heap.size + 1, 1, none⟩ = some (.slice none 0 0) ∧ x.cell? ⟨w.heap.size + 1, 2, none⟩ = some (.string ByteArray.empty) ∧ x.cell? ⟨w.heap.size + 1, 3, none⟩ = some (.int .i64 0) ∧ x.frozen? ⟨w.heap.size + 1, 0, none⟩ = false ∧ x.frozen? ⟨w.heap.size + 1, 1, none⟩ = false ∧ x.frozen? ⟨w.heap.size + 1, 2, none⟩ = false ∧ x.frozen? ⟨w.heap.size + 1, 3, none⟩ = false) := fun x hb => by
    have h1 := (hb.block (w.heap.size + 1) (by omega)).trans R1
    simp [World.cell?, World.frozen?, h1]
  have HEr : Hid (∀ (y : World) (c : Int) (x0 x1 x2 x3 : Value), Below W2.heap.size W2 y → wrC ss ps at_ data = c → c ≠ 0 → ∃ v1 v2, Ending.returned (.agg #[.slice none 0 0, .slice none 0 0, .string ByteArray.empty, .int .i64 c]) = .returned (.agg #[v1, v2, .string ByteArray.empty, .int .i64 (wrC ss ps at_ data)]) ∧ DskO w.heap.size (wrS ss ps at_ data) (wrP ss ps at_ data) v1 v2 ((((y.setCell ⟨w.heap.size + 1, 0, none⟩ x0).setCell ⟨w.heap.size + 1, 1, none⟩ x1).setCell ⟨w.heap.size + 1, 2, none⟩ x2).setCell ⟨w.heap.size + 1, 3, none⟩ x3) ∧ Below w.heap.size w ((((y.setCell ⟨w.heap.size + 1, 0, none⟩ x0).setCell ⟨w.heap.size + 1, 1, none⟩ x1).setCell ⟨w.heap.size + 1, 2, none⟩ x2).setCell ⟨w.heap.size + 1, 3, none⟩ x3)) := by
    intro y c x0 x1 x2 x3 hb hc hn
    have hn' : ¬ wrC ss ps at_ data = 0 := by rw [hc]; exact hn
    rw [show wrS ss ps at_ data = [] from if_neg hn', show wrP ss ps at_ data = [] from if_neg hn', hc]
    exact ⟨_, _, rfl, DskO.nil _ _, below_set4 (chainB B2.out hb) (by omega) _ _ _ _⟩
  have hD := implDiskRight_any q1 c1 ss q2 c2 ps W2 T1.out T2.out n1 n2 m1 m2
  obtain ⟨t0, t1⟩ := HX.out W2 (Below.refl _ _)
  have HSz : Hid (W2.heap.size = w.heap.size + 2) := S2
  clear hW2 R0 R1 h1 h2 hs1 S2
  by_cases h8 : 8000 < data.size
  · have hC : Hid (wrC ss ps at_ data = 2) := if_pos h8
    have d8 : decide (8000 < (data.size : Int)) = true := decide_eq_true (by omega)
    have HN : Hid (wrS ss ps at_ data = [] ∧ wrP ss ps at_ data = []) := by
      have hn' : ¬ wrC ss ps at_ data = 0 := by rw [hC.out]; omega
      exact ⟨if_neg hn', if_neg hn'⟩
    have HBE : Hid (Below w.heap.size w ((w.alloc (.cells #[.slice q1 ss.length c1, .slice q2 ps.length c2] 25)).alloc (.cells #[.slice none 0 0, .slice none 0 0, .string ⟨#[]⟩, .int .i64 2] 41))) := ((Below.refl _ _).alloc (Nat.le_refl _) _).alloc (by simp) _
    clear T1 T2 hD h8 HEr HR HX t0 t1
    go_enter Try.func44, Try.ntmps44
    go_wp2_with fail
    refine bodyPost_ret (v := .agg #[.slice none 0 0, .slice none 0 0, .string ByteArray.empty, .int .i64 2]) (by simp [results, Try.results44, go_sem]; rfl) rfl ?_
    rw [HN.out.1, HN.out.2, hC.out]
    exact ⟨_, _, rfl, DskO.nil _ _, HBE.out⟩
  have d8 : decide (8000 < (data.size : Int)) = false := decide_eq_false (by omega)
  have hC0 : wrC ss ps at_ data = if dskB ss ps = true ∧ data.size ≤ 64 then (if inB ss at_ = true then (if 200 ≤ ps.length then 9 else 0) else 8) else 1 := if_neg h8
  rw [HW2.out] at t0 t1
  cases hd : dskB ss ps with
  | false =>
    have hC : Hid (wrC ss ps at_ data = 1) := by show _ = _; rw [hC0, if_neg (fun h => by rw [hd] at h; cases h.1)]
    rw [hd] at hD
    clear hd T1 T2 hC0 h8
    go_enter Try.func44, Try.ntmps44
    go_wp2_with fail
    rw [← HW2.out]
    refine hD.mono ?_
    rintro e y1 ⟨rfl, b1⟩
    have HE := fun x0 x1 x2 x3 => HEr.out y1 1 x0 x1 x2 x3 b1 hC.out (by omega)
    obtain ⟨r0, r1, r2, r3, f0, f1, f2, f3⟩ := HR.out y1 b1
    clear b1 HEr HR HX t0 t1
    go_wp2_with fail
    refine bodyPost_ret (v := .agg #[.slice none 0 0, .slice none 0 0, .string ByteArray.empty, .int .i64 1]) (by simp [results, Try.results44, go_sem, r0, r1, r2, r3]; rfl) rfl ?_
    exact HE _ _ _ _
  | true =>
  obtain ⟨⟨p1, p2⟩, p3, p4, p5⟩ := dskB_parts hd
  rw [hd] at hD
  by_cases h64 : data.size ≤ 64
  case neg =>
    have hC : Hid (wrC ss ps at_ data = 1) := by show _ = _; rw [hC0, if_neg (fun h => h64 h.2)]
    have d64 : decide (64 < (data.size : Int)) = true := decide_eq_true (by omega)
    clear hd T1 T2 hC0 h8 h64 p4 p5
    go_enter Try.func44, Try.ntmps44
    go_wp2_with fail
    rw [← HW2.out]
    refine hD.mono ?_
    rintro e y1 ⟨rfl, b1⟩
    have HE := fun x0 x1 x2 x3 => HEr.out y1 1 x0 x1 x2 x3 b1 hC.out (by omega)
    obtain ⟨r0, r1, r2, r3, f0, f1, f2, f3⟩ := HR.out y1 b1
    clear b1 HEr HR HX t0 t1
    go_wp2_with fail
    refine bodyPost_ret (v := .agg #[.slice none 0 0, .slice none 0 0, .string ByteArray.empty, .int .i64 1]) (by simp [results, Try.results44, go_sem, r0, r1, r2, r3]; rfl) rfl ?_
    exact HE _ _ _ _
  have d64 : decide (64 < (data.size : Int)) = false := decide_eq_false (by omega)
  rw [if_pos ⟨hd, h64⟩] at hC0
  have HI : Hid (∀ x, Calls Try.prog 34 #[.agg #[.slice q1 ss.length c1, .slice q2 ps.length c2], .int .i64 at_] x fun e w' => e = .returned (.bool (inB ss at_)) ∧ Below x.heap.size x w') := fun x => hasSector_any _ _ _ _ _ _ _ x
  cases hi : inB ss at_ with
  | false =>
    have hC : Hid (wrC ss ps at_ data = 8) := by show _ = _; rw [hC0, if_neg (by rw [hi]; exact Bool.false_ne_true)]
    rw [hi] at HI
    clear hd hi T1 T2 hC0 h8 p4 p5
    go_enter Try.func44, Try.ntmps44
    go_wp2_with fail
    rw [← HW2.out]
    refine hD.mono ?_
    rintro e y1 ⟨rfl, b1⟩
    obtain ⟨x0, x1⟩ := HX.out y1 b1
    clear t0 t1
    go_wp2_with fail
    refine (HI.out _).mono ?_
    rintro e y2 ⟨rfl, b2⟩
    have b2 := chainB b1 b2
    have HE := fun x0 x1 x2 x3 => HEr.out y2 8 x0 x1 x2 x3 b2 hC.out (by omega)
    obtain ⟨r0, r1, r2, r3, f0, f1, f2, f3⟩ := HR.out y2 b2
    clear b1 b2 HEr HR HX x0 x1
    go_wp2_with fail
    refine bodyPost_ret (v := .agg #[.slice none 0 0, .slice none 0 0, .string ByteArray.empty, .int .i64 8]) (by simp [results, Try.results44, go_sem, r0, r1, r2, r3]; rfl) rfl ?_
    exact HE _ _ _ _
  | true =>
  rw [if_pos hi] at hC0
  rw [hi] at HI
  by_cases h200 : 200 ≤ ps.length
  · have hC : Hid (wrC ss ps at_ data = 9) := by show _ = _; rw [hC0, if_pos h200]
    have hl : ps.length = 200 := by omega
    have d200 : ((ps.length : Int) == 200) = true := by rw [hl]; rfl
    clear hd hi T1 T2 hC0 h8 h64 h200 p4 p5 hl
    go_enter Try.func44, Try.ntmps44
    go_wp2_with fail
    rw [← HW2.out]
    refine hD.mono ?_
    rintro e y1 ⟨rfl, b1⟩
    obtain ⟨x0, x1⟩ := HX.out y1 b1
    clear t0 t1
    go_wp2_with fail
    refine (HI.out _).mono ?_
    rintro e y2 ⟨rfl, b2⟩
    have b2 := chainB b1 b2
    clear x0 x1
    obtain ⟨x0, x1⟩ := HX.out y2 b2
    have HE := fun x0 x1 x2 x3 => HEr.out y2 9 x0 x1 x2 x3 b2 hC.out (by omega)
    obtain ⟨r0, r1, r2, r3, f0, f1, f2, f3⟩ := HR.out y2 b2
    clear b1 b2 HEr HR HX x0
    go_wp2_with fail
    refine bodyPost_ret (v := .agg #[.slice none 0 0, .slice none 0 0, .string ByteArray.empty, .int .i64 9]) (by simp [results, Try.results44, go_sem, r0, r1, r2, r3]; rfl) rfl ?_
    exact HE _ _ _ _
  have d200 : ((ps.length : Int) == 200) = false := beq_eq_false_iff_ne.2 (by omega)
  have hC : wrC ss ps at_ data = 0 := by rw [hC0, if_neg h200]
  have HV : Hid (wrS ss ps at_ data = ss ∧ wrP ss ps at_ data = ps ++ [(at_, data)] ∧ wrC ss ps at_ data = 0) := ⟨if_pos hC, if_pos hC, hC⟩
  have H4 : Hid (∀ x ∈ ss, x.size ≤ 64) := p4
  have H5 : Hid (∀ p ∈ ps, pndOk ss.length p) := p5
  clear hd hi hC0 hC HEr h8 p4 p5
  go_enter Try.func44, Try.ntmps44
  go_wp2_with fail
  rw [← HW2.out]
  refine hD.mono ?_
  rintro e y1 ⟨rfl, b1⟩
  obtain ⟨x0, x1⟩ := HX.out y1 b1
  clear t0 t1
  go_wp2_with fail
  refine (HI.out _).mono ?_
  rintro e y2 ⟨rfl, b2⟩
  have b2 := chainB b1 b2
  clear x0 x1 b1
  obtain ⟨x0, x1⟩ := HX.out y2 b2
  go_wp2_with fail
  refine (copiedDisk_any q1 c1 ss q2 c2 ps y2 (T1.out.below b2) (T2.out.below b2) n1 n2 m1 m2 (fun x hx => by have := H4.out x hx; omega) (fun p hp => by have := (H5.out p hp).2; omega)).mono ?_
  rintro e y3 ⟨v1, v2, rfl, ho, b3⟩
  have ho := ho.mono (show W2.heap.size ≤ y2.heap.size from b2.size)
  have b3 := chainB b2 b3
  obtain ⟨o1, d1, rfl, -, -⟩ := ownS_form ho.own1
  obtain ⟨o2, d2, rfl, -, -⟩ := ownP_form ho.own2
  obtain ⟨Y, hY⟩ : ∃ Y, Y = y3.alloc (.cells #[.slice o1 ss.length d1, .slice o2 ps.length d2] 25) := ⟨_, rfl⟩
  have HY : Hid (Y = y3.alloc (.cells #[.slice o1 ss.length d1, .slice o2 ps.length d2] 25)) := hY
  have SY : Y.heap.size = y3.heap.size + 1 := by rw [hY]; simp
  have bY : Below y3.heap.size y3 Y := by rw [hY]; exact (Below.refl _ _).alloc (Nat.le_refl _) _
  have KY : Bxs Y y3.heap.size 25 #[.slice o1 ss.length d1, .slice o2 ps.length d2] := by rw [hY]; exact Bxs.new _ _ _
  have HKY : Hid (∀ y, Below Y.heap.size Y y → y.cell? ⟨y3.heap.size, 0, none⟩ = some (.slice o1 ss.length d1) ∧ y.cell? ⟨y3.heap.size, 1, none⟩ = some (.slice o2 ps.length d2)) := fun y hy => ⟨(KY.below hy).cell 0, (KY.below hy).cell 1⟩
  have HJ : Hid (∀ y, Below Y.heap.size Y y → Calls Try.prog 41 #[.slice (some ⟨y.heap.size, 0, none⟩) 1 1] (y.alloc (.cells #[.string data] 9)) fun e w' => e = .returned (.string data) ∧ Below Y.heap.size Y w') := fun y hy => (joined_one data y (by omega)).mono (by
    rintro e w' ⟨rfl, h⟩
    exact ⟨rfl, chainB hy h⟩)
  have HJ2 : Hid (∀ y, Below Y.heap.size Y y → Calls Try.prog 41 #[.slice (some ⟨y.heap.size, 0, none⟩) 1 1] (y.alloc (.cells #[.string data] 9)).drew fun e w' => e = .returned (.string data) ∧ Below Y.heap.size Y w') := fun y hy => HJ.out y.drew hy.drew
  have HA : Hid (∀ y, Below Y.heap.size Y y → ∃ g c x, (Builtin.append_ #[23, 23] 23 #[.slice o2 ps.length d2, .slice (some ⟨y.heap.size, 0, none⟩) 1 1]).run Try.prog (y.alloc (.cells #[.int .i64 at_, .string data] 53)) = .ok (.slice (some ⟨g, 0, none⟩) (ps.length + 1) c) x ∧
      (x.cell? ⟨y3.heap.size, 0, none⟩ = some (.slice o1 ss.length d1) ∧ x.cell? ⟨y3.heap.size, 1, none⟩ = some (.slice o2 ps.length d2) ∧ x.frozen? ⟨y3.heap.size, 1, none⟩ = false) ∧
      (∀ v, Below W2.heap.size W2 (x.setCell ⟨y3.heap.size, 1, none⟩ v)) ∧
      (∀ v x0 x1 x2 x3 : Value, DskO w.heap.size ss (ps ++ [(at_, data)]) (.slice o1 ss.length d1) (.slice (some ⟨g, 0, none⟩) (ps.length + 1) c) (((((x.setCell ⟨y3.heap.size, 1, none⟩ v).setCell ⟨w.heap.size + 1, 0, none⟩ x0).setCell ⟨w.heap.size + 1, 1, none⟩ x1).setCell ⟨w.heap.size + 1, 2, none⟩ x2).setCell ⟨w.heap.size + 1, 3, none⟩ x3) ∧ Below w.heap.size w (((((x.setCell ⟨y3.heap.size, 1, none⟩ v).setCell ⟨w.heap.size + 1, 0, none⟩ x0).setCell ⟨w.heap.size + 1, 1, none⟩ x1).setCell ⟨w.heap.size + 1, 2, none⟩ x2).setCell ⟨w.heap.size + 1, 3, none⟩ x3))) := fun y hy => by
    have byy := chainB bY hy
    have bWy := chainB b3 byy
    have hoy := ho.below byy
    have sW := HSz.out
    obtain ⟨g, cg, x, hr3, ow3, gr3, at3⟩ := app_pend y W2.heap.size _ ps hoy.own2 (at_, data) (by omega) bWy.size
    have hv2 : ∀ j, (Value.slice o2 ps.length d2).ownBlock = some j → W2.heap.size ≤ j ∧ j < y3.heap.size := fun j hj => ho.own2.lt j hj
    have hv1 : ∀ j, (Value.slice o1 ss.length d1).ownBlock = some j → j < y3.heap.size := fun j hj => (ho.own1.lt j hj).2
    have hyz := hy.size
    have h3z := b3.size
    have b4 : Below W2.heap.size W2 x := (alB bWy _).grown gr3 (by rw [szA]; have := bWy.size; omega) (fun j hj => (hv2 j hj).1)
    have R3 : Bxs x y3.heap.size 25 #[.slice o1 ss.length d1, .slice o2 ps.length d2] :=
      (gr3.block y3.heap.size (by rw [szA]; omega) (fun h => by have := (hv2 _ h.symm).2; omega)).trans ((KY.below hy).alloc _)
    have ow1 : x.ownsRow W2.heap.size 9 1 (.slice o1 ss.length d1) ss.length (strRow ss) := (hoy.own1.alloc _).kept gr3 hoy.ne
    have hg2 : g ≠ y3.heap.size ∧ W2.heap.size ≤ g := by
      rcases at3 with h | h
      · have := hv2 g h; omega
      · omega
    have hne : (Value.slice o1 ss.length d1).ownBlock = none ∨ (Value.slice o1 ss.length d1).ownBlock ≠ (Value.slice (some ⟨g, 0, none⟩) (ps.length + 1) cg).ownBlock := by
      rcases hoy.ne with h | h
      · exact .inl h
      · refine .inr (fun e => ?_)
        have e : (Value.slice o1 ss.length d1).ownBlock = some g := e
        rcases at3 with h2 | h2
        · exact h (e.trans h2.symm)
        · have := hv1 g e; omega
    have b5 : ∀ v, Below W2.heap.size W2 (x.setCell ⟨y3.heap.size, 1, none⟩ v) := fun v => b4.setCell (by show W2.heap.size ≤ y3.heap.size; exact b3.size) _
    have ho4 : ∀ v, DskO W2.heap.size ss (ps ++ [(at_, data)]) (.slice o1 ss.length d1) (.slice (some ⟨g, 0, none⟩) (ps.length + 1) cg) (x.setCell ⟨y3.heap.size, 1, none⟩ v) := fun v =>
      ⟨ownsRow_setCell_other ow1 (fun e => by have := hv1 _ e; exact absurd this (Nat.lt_irrefl _)) _, ownsRow_setCell_other ow3 (fun e => hg2.1 (by simpa [Value.ownBlock] using e)) _, hne⟩
    exact ⟨g, cg, x, hr3, ⟨R3.cell 0, R3.cell 1, R3.fr 1⟩, b5, fun v x0 x1 x2 x3 => ⟨((ho4 v).set4 (by omega) x0 x1 x2 x3).mono (by omega), below_set4 (chainB B2.out (b5 v)) (by omega) _ _ _ _⟩⟩
  have H0 : Hid (Below Y.heap.size Y Y) := Below.refl _ _
  obtain ⟨z0, z1⟩ := HKY.out Y H0.out
  obtain ⟨z2, z3⟩ := HKY.out _ (H0.out.alloc (Nat.le_refl _) (.cells #[.string data] 9))
  rw [hY] at z0 z1
  clear hY bY KY SY ho b2 b3 x0 x1 HX d200 h200
  go_wp2_with fail
  rw [← HY.out] at z0 z1 ⊢
  go_region_law (first
    | (refine step_append_run rfl _ _ 23 rfl (.slice o2 ps.length d2) (.slice (some ⟨u1.heap.size, 0, none⟩) 1 1) _ _ rfl rfl (by with_reducible exact ha1) ?_)
    | (go_simp; go_at_call 41; first | refine (HJ.out _ (by first | exact H0.out | exact H0.out.drew)).mono ?_ | refine (HJ2.out _ (by first | exact H0.out | exact H0.out.drew)).mono ?_; rintro e u1 ⟨rfl, k1⟩; obtain ⟨g1, e1, u2, ha1, ⟨ha2, ha3, ha4⟩, ha5, ha6⟩ := HA.out u1 k1; obtain ⟨z4, z5⟩ := HKY.out u1 k1; obtain ⟨z6, z7⟩ := HKY.out _ (k1.alloc k1.size (.cells #[.int .i64 at_, .string data] 53))))
  all_goals
    obtain ⟨r0, r1, r2, r3, f0, f1, f2, f3⟩ := HR.out _ (ha5 (.slice (some ⟨g1, 0, none⟩) (ps.length + 1) e1))
    have HE : Hid _ := ha6
    clear ha1 ha5 ha6 HA HJ HJ2 HKY H0 k1 HR z0 z1 z2 z3 z4 z5 z6 z7
    go_wp2_with fail
    refine bodyPost_ret (v := .agg #[.slice o1 ss.length d1, .slice (some ⟨g1, 0, none⟩) (ps.length + 1) e1, .string ByteArray.empty, .int .i64 0]) (by simp [results, Try.results44, go_sem, r0, r1, r2, r3]; rfl) rfl ?_
    obtain ⟨v1, v2, v3⟩ := HV.out
    rw [v1, v2, v3]
    exact ⟨_, _, rfl, HE.out _ _ _ _ _⟩
end Go.Proofs.Ytcbclmhkejknoaa
