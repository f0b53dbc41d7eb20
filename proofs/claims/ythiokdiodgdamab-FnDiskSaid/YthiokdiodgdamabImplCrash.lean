/-
  What the program's DiskCrash answers: as the specification's.
  Conditions: the cells hold the texts, the pendings and the numbers; no text is greater than 2^20 bytes.
-/
import Derived.Test.YthiokdiodgdamabRows
import Derived.Test.YthiokdiodgdamabBytes
import Derived.Test.YthiokdiodgdamabSlA
import Derived.Test.YthiokdiodgdamabSlB
import Derived.Test.YthiokdiodgdamabOwnS
import Derived.Test.YthiokdiodgdamabDskMath
import Derived.Test.YthiokdiodgdamabDskC
import Derived.Test.YthiokdiodgdamabDskT
import Derived.Test.YthiokdiodgdamabDskF
import Derived.Test.YthiokdiodgdamabDskK
import Derived.Test.YthiokdiodgdamabDskLaw
import Derived.Test.YthiokdiodgdamabLawD
import Derived.Test.YthiokdiodgdamabImplDR
import Derived.Test.YthiokdiodgdamabImplDC
import Derived.Test.YthiokdiodgdamabImplDG
import Derived.Handy
import Derived.WalkSpells
import Derived.OwnWalk
import Derived.Deep.RegionWith
namespace Go.Proofs.Ythiokdiodgdamab
open Go.RowKit Go.Lib
set_option linter.unusedVariables false
set_option maxRecDepth 20000

theorem keptB_len (keep : List Int) (ps : List Pnd) : ∀ i, (keptB keep i ps).length ≤ ps.length := by
  induction ps with
  | nil => intro i; exact Nat.le_refl _
  | cons p ps ih =>
    intro i
    show (if 0 < keep.getD i 0 then p :: keptB keep (i + 1) ps else keptB keep (i + 1) ps).length ≤ _
    have := ih (i + 1)
    split
    · simp; exact this
    · simp; omega
set_option maxHeartbeats 4000000 in
theorem implDiskCrash_any (q1 : Option Addr) (c1 : Nat) (ss : List ByteArray) (q2 : Option Addr) (c2 : Nat) (ps : List Pnd) (q3 : Option Addr) (c3 : Nat) (keep : List Int) (w : World) (h1 : TxtAt w q1 ss) (h2 : PndAt w q2 ps) (h3 : IntAt w q3 keep) (n1 : ss.length ≤ 1048576) (n2 : ps.length ≤ 1048576) (n3 : keep.length ≤ 1048576) (m1 : ss.length ≤ c1) (m2 : ps.length ≤ c2) (m3 : keep.length ≤ c3) (s1 : ∀ x ∈ ss, x.size ≤ 1048576) (s2 : ∀ p ∈ ps, p.2.size ≤ 1048576) :
    Calls Try.prog 7 #[.agg #[.slice q1 ss.length c1, .slice q2 ps.length c2], .slice q3 keep.length c3] w fun e w' => ∃ v1 v2, e = .returned (.agg #[v1, v2]) ∧ DskO w.heap.size (crS ss ps keep) (crP ss ps keep) v1 v2 w' ∧ Below w.heap.size w w' := by
  obtain ⟨W2, hW2⟩ : ∃ W2, W2 = (w.alloc (.cells #[.slice q1 ss.length c1, .slice q2 ps.length c2] 26)).alloc (.cells #[.slice none 0 0, .slice none 0 0] 26) := ⟨_, rfl⟩
  have HW2 : Hid (W2 = (w.alloc (.cells #[.slice q1 ss.length c1, .slice q2 ps.length c2] 26)).alloc (.cells #[.slice none 0 0, .slice none 0 0] 26)) := hW2
  have hs1 : (w.alloc (.cells #[.slice q1 ss.length c1, .slice q2 ps.length c2] 26)).heap.size = w.heap.size + 1 := by simp
  have S2 : W2.heap.size = w.heap.size + 2 := by rw [hW2]; simp
  have R0 : W2.heap[w.heap.size]? = some (.cells #[.slice q1 ss.length c1, .slice q2 ps.length c2] 26 (0, 0)) := by rw [hW2]; exact (Below.heap_alloc _ _ _ (by rw [hs1]; omega)).trans (MapKept.heap_alloc w _).1
  have R1 : W2.heap[w.heap.size + 1]? = some (.cells #[.slice none 0 0, .slice none 0 0] 26 (0, 0)) := by rw [hW2, ← hs1]; exact (MapKept.heap_alloc _ _).1
  have B2 : Hid (Below w.heap.size w W2) := by rw [hW2]; exact ((Below.refl _ _).alloc (Nat.le_refl _) _).alloc (by rw [hs1]; omega) _
  have T1 : Hid (TxtAt W2 q1 ss) := h1.below B2.out
  have T2 : Hid (PndAt W2 q2 ps) := h2.below B2.out
  have T3 : Hid (IntAt W2 q3 keep) := h3.below B2.out
  have HX : Hid (∀ x, Below W2.heap.size W2 x → x.cell? ⟨w.heap.size, 0, none⟩ = some (.slice q1 ss.length c1) ∧ x.cell? ⟨w.heap.size, 1, none⟩ = some (.slice q2 ps.length c2)) := fun x hb => by
    have h0 := (hb.block w.heap.size (by omega)).trans R0
    simp [World.cell?, h0]
  have HR : Hid (∀ x, Below W2.heap.size W2 x → x.cell? ⟨w.heap.size + 1, 0, none⟩ = some (.slice none 0 0) ∧ x.cell? ⟨w.heap.size + 1, 1, none⟩ = some (.slice none 0 0) ∧ x.frozen? ⟨w.heap.size + 1, 0, none⟩ = false ∧ x.frozen? ⟨w.heap.size + 1, 1, none⟩ = false) := fun x hb => by
    have h1 := (hb.block (w.heap.size + 1) (by omega)).trans R1
    simp [World.cell?, World.frozen?, h1]
  have hD := implDiskRight_any q1 c1 ss q2 c2 ps W2 T1.out T2.out n1 n2 m1 m2
  obtain ⟨t0, t1⟩ := HX.out W2 (Below.refl _ _)
  have HSz : Hid (W2.heap.size = w.heap.size + 2) := S2
  have HS1 : Hid (∀ x ∈ ss, x.size ≤ 1048576) := s1
  have HS2 : Hid (∀ p ∈ ps, p.2.size ≤ 1048576) := s2
  clear hW2 R0 R1 h1 h2 h3 hs1 S2 s1 s2
  rw [HW2.out] at t0 t1
  by_cases h4 : 400 < keep.length
  · have hC : Hid (crS ss ps keep = [] ∧ crP ss ps keep = []) := ⟨if_pos h4, if_pos h4⟩
    have d4 : decide (400 < (keep.length : Int)) = true := decide_eq_true (by omega)
    clear T1 T2 T3 hD h4 HR HX
    go_enter Try.func7, Try.ntmps7
    go_wp2_with fail
    refine bodyPost_ret (v := .agg #[.slice none 0 0, .slice none 0 0]) (by simp [results, Try.results7, go_sem]) rfl ?_
    rw [hC.out.1, hC.out.2]
    refine ⟨_, _, rfl, DskO.nil _ _, ?_⟩
    rw [← HW2.out]
    exact B2.out
  have d4 : decide (400 < (keep.length : Int)) = false := decide_eq_false (by omega)
  cases hd : dskB ss ps with
  | false =>
    have hC : Hid (crS ss ps keep = ss ∧ crP ss ps keep = ps) := by
      have hn : ¬ dskB ss ps = true := by rw [hd]; exact Bool.false_ne_true
      refine ⟨?_, ?_⟩
      · unfold crS; rw [if_neg h4, if_neg hn]
      · unfold crP; rw [if_neg h4, if_neg hn]
    rw [hd] at hD
    clear hd h4
    go_enter Try.func7, Try.ntmps7
    go_wp2_with fail
    rw [← HW2.out]
    refine hD.mono ?_
    rintro e y1 ⟨rfl, b1⟩
    obtain ⟨x0, x1⟩ := HX.out y1 b1
    clear t0 t1
    go_wp2_with fail
    refine (copiedDisk_any q1 c1 ss q2 c2 ps y1 (T1.out.below b1) (T2.out.below b1) n1 n2 m1 m2 HS1.out HS2.out).mono ?_
    rintro e y2 ⟨v1, v2, rfl, ho, b2⟩
    have ho2 := ho.mono (show w.heap.size + 2 ≤ y1.heap.size by have := b1.size; have := HSz.out; omega)
    have b2 := chainB b1 b2
    obtain ⟨o1, d1, rfl, -, -⟩ := ownS_form ho2.own1
    obtain ⟨o2, d2, rfl, -, -⟩ := ownP_form ho2.own2
    have HE : Hid (∀ x0 x1 : Value, DskO w.heap.size ss ps (.slice o1 ss.length d1) (.slice o2 ps.length d2) ((y2.setCell ⟨w.heap.size + 1, 0, none⟩ x0).setCell ⟨w.heap.size + 1, 1, none⟩ x1) ∧ Below w.heap.size w ((y2.setCell ⟨w.heap.size + 1, 0, none⟩ x0).setCell ⟨w.heap.size + 1, 1, none⟩ x1)) := fun x0 x1 => ⟨(ho2.set2 (by omega) x0 x1).mono (by omega), below_set2 (chainB B2.out b2) (by omega) _ _⟩
    obtain ⟨r0, r1, f0, f1⟩ := HR.out y2 b2
    clear b1 b2 HR HX ho ho2 x0 x1
    go_wp2_with fail
    refine bodyPost_ret (v := .agg #[.slice o1 ss.length d1, .slice o2 ps.length d2]) (by simp [results, Try.results7, go_sem, r0, r1]) rfl ?_
    rw [hC.out.1, hC.out.2]
    exact ⟨_, _, rfl, HE.out _ _⟩
  | true =>
  obtain ⟨⟨p1, p2⟩, p3, p4, p5⟩ := dskB_parts hd
  have HV : Hid (crS ss ps keep = flushB ss (keptB keep 0 ps) ∧ crP ss ps keep = []) := by
    refine ⟨?_, ?_⟩
    · unfold crS; rw [if_neg h4, if_pos hd]; rfl
    · unfold crP; rw [if_neg h4, if_pos hd]
  rw [hd] at hD
  have QK : Hid (∀ x, Below W2.heap.size W2 x → Calls Try.prog 32 #[.slice q2 ps.length c2, .slice q3 keep.length c3] x fun e x1 => ∃ p c, e = .returned (.slice p (keptB keep 0 ps).length c) ∧ (keptB keep 0 ps).length ≤ c ∧ PndAt x1 p (keptB keep 0 ps) ∧ Below W2.heap.size W2 x1) := fun x hb => (keptOf_any q2 c2 ps q3 c3 keep x (T2.out.below hb) (T3.out.below hb) n2 n3 m2 m3).mono (by
    rintro e x1 ⟨v, rfl, ho, h1⟩
    obtain ⟨p, c, rfl, hc, hp⟩ := ownP_form ho
    exact ⟨p, c, rfl, hc, hp, chainB hb h1⟩)
  have QF : Hid (∀ x p c, Below W2.heap.size W2 x → (keptB keep 0 ps).length ≤ c → PndAt x p (keptB keep 0 ps) → Calls Try.prog 31 #[.slice q1 ss.length c1, .slice p (keptB keep 0 ps).length c] x fun e x1 => ∃ o d, e = .returned (.agg #[.slice o (flushB ss (keptB keep 0 ps)).length d, .slice none 0 0]) ∧ DskO (w.heap.size + 2) (flushB ss (keptB keep 0 ps)) [] (.slice o (flushB ss (keptB keep 0 ps)).length d) (.slice none 0 0) x1 ∧ Below W2.heap.size W2 x1) := fun x p c hb hc hp => (flushed_any q1 c1 ss p c (keptB keep 0 ps) x (T1.out.below hb) hp p1 p2 (by have := keptB_len keep ps 0; omega) m1 hc p4 (fun q hq => p5 q (kept_sub keep ps 0 q hq))).mono (by
    rintro e x1 ⟨v, rfl, ho, h1⟩
    have ho := ho.mono (show w.heap.size + 2 ≤ x.heap.size by have := hb.size; have := HSz.out; omega)
    obtain ⟨o, d, rfl, -, -⟩ := ownS_form ho.own1
    exact ⟨o, d, rfl, ho, chainB hb h1⟩)
  generalize keptB keep 0 ps = KP at *
  generalize flushB ss KP = FS at *
  clear hd p4 p5 h4
  go_enter Try.func7, Try.ntmps7
  go_wp2_with fail
  rw [← HW2.out]
  refine hD.mono ?_
  rintro e y1 ⟨rfl, b1⟩
  have H1 : Hid (Below W2.heap.size W2 y1) := b1
  obtain ⟨x0, x1⟩ := HX.out y1 b1
  clear t0 t1 b1
  go_wp2_with fail
  go_region_with (first
    | (go_at_call 32; refine (QK.out _ (by first | exact H1.out | exact H1.out.drew)).mono ?_; rintro e y2 ⟨pk, ck, rfl, hck, hpk, z2⟩; obtain ⟨j0, j1⟩ := HX.out _ z2)
    | (go_at_call 31; refine (QF.out _ pk ck (by first | exact z2 | exact z2.drew) hck (by first | exact hpk | exact hpk.below (Below.refl _ _).drew)).mono ?_; rintro e y3 ⟨o3, d3, rfl, ho3, z3⟩; obtain ⟨r0, r1, f0, f1⟩ := HR.out _ z3))
  all_goals
    have HE : Hid (∀ x0 x1 : Value, DskO w.heap.size FS [] (.slice o3 FS.length d3) (.slice none 0 0) ((y3.setCell ⟨w.heap.size + 1, 0, none⟩ x0).setCell ⟨w.heap.size + 1, 1, none⟩ x1) ∧ Below w.heap.size w ((y3.setCell ⟨w.heap.size + 1, 0, none⟩ x0).setCell ⟨w.heap.size + 1, 1, none⟩ x1)) := fun x0 x1 => ⟨(ho3.set2 (by omega) x0 x1).mono (by omega), below_set2 (chainB B2.out z3) (by omega) _ _⟩
    clear x0 x1 QK QF HX HR
    go_wp2_with fail
    refine bodyPost_ret (v := .agg #[.slice o3 FS.length d3, .slice none 0 0]) (by simp [results, Try.results7, go_sem, r0, r1]) rfl ?_
    rw [HV.out.1, HV.out.2]
    exact ⟨_, _, rfl, HE.out _ _⟩
end Go.Proofs.Ythiokdiodgdamab
