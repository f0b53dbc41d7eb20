/-
  For every policy and rule the law FnExactRulePut returns true: the program's RulePut answers as the specification's, writes into no argument, and its answer owns its memory.
  Conditions: none of mine; the form's own reach. The statement speaks of the pruned copy of the project that the seat names.
-/
import Derived.Test.YteehhpmmnpajmaaRows
import Derived.Test.YteehhpmmnpajmaaBytes
import Derived.Test.YteehhpmmnpajmaaSlA
import Derived.Test.YteehhpmmnpajmaaOwnS
import Derived.Test.YteehhpmmnpajmaaBxK
import Derived.Test.YteehhpmmnpajmaaTakesL
import Derived.Test.YteehhpmmnpajmaaTillTwo
import Derived.Test.YteehhpmmnpajmaaIntK
import Derived.Test.YteehhpmmnpajmaaRulMath
import Derived.Test.YteehhpmmnpajmaaRulBlk
import Derived.Test.YteehhpmmnpajmaaPolMath
import Derived.Test.YteehhpmmnpajmaaLawRl
import Derived.Test.YteehhpmmnpajmaaLawI
import Derived.Test.YteehhpmmnpajmaaLawIm
import Derived.Test.YteehhpmmnpajmaaLawRm
import Derived.Test.YteehhpmmnpajmaaPolO
import Derived.Test.YteehhpmmnpajmaaPolAns
import Derived.Test.YteehhpmmnpajmaaSpecHe
import Derived.Test.YteehhpmmnpajmaaImplRp
import Derived.Test.YteehhpmmnpajmaaSpecRp
import Derived.Test.YteehhpmmnpajmaaLawPo
import Derived.Test.YteehhpmmnpajmaaLawPoM
import Derived.Test.YteehhpmmnpajmaaGrTwo
import Derived.Test.YteehhpmmnpajmaaLawPoG
import Derived.Test.YteehhpmmnpajmaaOpP
import Derived.WalkKit
import Derived.ProofKit
import Derived.OpenShut
import Derived.ShutString
import Derived.ChangeOld
import Derived.Below
import Derived.Deep.RegionWith
import Derived.Deep.Cut
import Derived.Deep.CutRange
import Derived.Handy
import Derived.Deep.RegionHeld3
import Derived.WalkSpells
namespace Go.Proofs.Yteehhpmmnpajmaa.fnExactRulePut
open Go.ChangeShapes Go.WideShapes Go.ChangeAt Go.RowKit
open Go.ChangeMaps (open_string shut_string)
set_option linter.unusedVariables false

theorem own : ownKnob Try.prog.godebug = none := by kernel_rfl
theorem laidOut : laidOutB Try.prog = true := by kernel_rfl

/-- An answer that was put into a box of its own, made at some time behind the world x. -/
structure PuS (x : World) (RS : List Rul) (RP : List Int) (C0 : Int) (Eb : Nat) (p1 : Option Addr) (c1 : Nat) (p2 : Option Addr) (c2 : Nat) (wx : World) : Prop where
  eb : x.heap.size ≤ Eb
  box : Bxs wx Eb 32 #[.slice p1 RS.length c1, .slice p2 RP.length c2, .int .i64 C0]
  pol : PolO x.heap.size RS RP (.slice p1 RS.length c1) (.slice p2 RP.length c2) wx
  bel : Below x.heap.size x wx
  m1 : RS.length ≤ c1
  m2 : RP.length ≤ c2
  n1 : some Eb ≠ (Value.slice p1 RS.length c1).ownBlock
  n2 : some Eb ≠ (Value.slice p2 RP.length c2).ownBlock
theorem below_set {B : Nat} {x y : World} (h : Below B x y) {g : Nat} (hg : B ≤ g) (i : Nat) (v : Value) : Below B x (y.setCell ⟨g, i, none⟩ v) := by
  refine h.trans ⟨rfl, rfl, rfl, by simp [World.setCell], fun k hk => ?_⟩
  have hne : g ≠ k := by omega
  simp [World.setCell, Array.getElem?_modify, hne]
theorem PuS.put {x y : World} {RS : List Rul} {RP : List Int} {C0 : Int} {Eb : Nat} {p1 p2 : Option Addr} {c1 c2 : Nat} {u0 u1 u2 : Value} (k : Bxs y Eb 32 #[u0, u1, u2]) (eb : x.heap.size ≤ Eb) (pol : PolO x.heap.size RS RP (.slice p1 RS.length c1) (.slice p2 RP.length c2) y) (bel : Below x.heap.size x y) (m1 : RS.length ≤ c1) (m2 : RP.length ≤ c2) (n1 : some Eb ≠ (Value.slice p1 RS.length c1).ownBlock) (n2 : some Eb ≠ (Value.slice p2 RP.length c2).ownBlock) :
    PuS x RS RP C0 Eb p1 c1 p2 c2 (((y.setCell ⟨Eb, 0, none⟩ (.slice p1 RS.length c1)).setCell ⟨Eb, 1, none⟩ (.slice p2 RP.length c2)).setCell ⟨Eb, 2, none⟩ (.int .i64 C0)) :=
  ⟨eb, ((k.set 0 _).set 1 _).set 2 _, ((pol.setN n1 n2 0 _).setN n1 n2 1 _).setN n1 n2 2 _, below_set (below_set (below_set bel eb 0 _) eb 1 _) eb 2 _, m1, m2, n1, n2⟩
theorem rp_le {ss : List Rul} {ps : List Int} {R : Rul} (l1 : ss.length ≤ 1048576) : (rpR ss ps R).length ≤ 1048576 := by
  unfold rpR
  split
  · rename_i h
    split
    · simpa using l1
    · rename_i hb
      unfold rpC at h
      split at h
      · rename_i hp
        have h6 := (polB_parts hp.1).1
        simp only [List.length_append, List.length_take, List.length_cons, List.length_nil, List.length_drop]
        omega
      · omega
  · simp
theorem ite_le {α : Type} (c : Prop) [Decidable c] (l : List α) (h : l.length ≤ 1048576) : (if c then l else []).length ≤ 1048576 := by
  split
  · exact h
  · simp
set_option maxRecDepth 20000 in
set_option maxHeartbeats 8000000 in
theorem walk (a0 : Option Addr) (len0 cap0 : Nat) (ss : List Rul) (b0 : Option Addr) (lenb capb : Nat) (ps : List Int) (R : Rul) (w : World) (w0 : IsRuls w a0 len0 cap0 ss ∧ IsIntsP w b0 lenb capb ps) (hwR : RulLe R) :
    Calls Try.prog 5 #[.agg #[.slice a0 len0 cap0, .slice b0 lenb capb], .agg #[.string R.k, .string R.f, .int .i64 R.l, .int .i64 R.m]] w fun e w' => e = .returned (.bool true) ∧ Below w.heap.size w w' := by
  obtain ⟨⟨rfl, hp, hcap, hm, hsz⟩, ⟨rfl, hq, hcap2, hm2⟩⟩ := w0
  have P1 : Hid (RulAt w a0 ss) := hp
  have P2 : Hid (IntAt w b0 ps) := hq
  have Z1 : Hid (RulsLe ss) := hsz
  have Z2 : Hid (RulLe R) := hwR
  clear hp hq hsz hwR
  unfold maxLen at hm hm2
  obtain ⟨W1, hW1⟩ : ∃ W1, W1 = (w.alloc (.cells #[.slice a0 ss.length cap0, .slice b0 ps.length capb] 45)).alloc (.cells #[.string R.k, .string R.f, .int .i64 R.l, .int .i64 R.m] 50) := ⟨_, rfl⟩
  have HW1 : Hid (W1 = (w.alloc (.cells #[.slice a0 ss.length cap0, .slice b0 ps.length capb] 45)).alloc (.cells #[.string R.k, .string R.f, .int .i64 R.l, .int .i64 R.m] 50)) := hW1
  have b1 : Below w.heap.size w W1 := by rw [hW1]; exact alB (alB (Below.refl _ _) _) _
  have A1 : Hid (Bxs W1 w.heap.size 45 #[.slice a0 ss.length cap0, .slice b0 ps.length capb]) := by rw [hW1]; exact (Bxs.new _ _ _).alloc _
  have R1 : Hid (Bxs W1 (w.heap.size + 1) 50 #[.string R.k, .string R.f, .int .i64 R.l, .int .i64 R.m]) := by
    rw [hW1]
    have h := Bxs.new (w.alloc (.cells #[.slice a0 ss.length cap0, .slice b0 ps.length capb] 45)) 50 #[.string R.k, .string R.f, .int .i64 R.l, .int .i64 R.m]
    rwa [szA] at h
  have B1 : Hid (Below w.heap.size w W1) := b1
  have S1 := R1.out.lt
  clear hW1 b1
  go_enter Try.func5, Try.ntmps5
  go_wp2_with fail
  rw [← HW1.out]
  refine (szPolicy_any 1048576 (by omega) (by omega) a0 b0 cap0 capb ss ps W1 (P1.out.below B1.out) (by omega) (by omega) hcap (fun x hx => by have := Z1.out x hx; unfold maxLen at this; exact this)).mono ?_
  rintro e w1a ⟨⟨r, rfl, hr⟩, b1a⟩
  have A1a : Hid (Bxs w1a w.heap.size 45 #[.slice a0 ss.length cap0, .slice b0 ps.length capb]) := A1.out.below b1a
  have R1a : Hid (Bxs w1a (w.heap.size + 1) 50 #[.string R.k, .string R.f, .int .i64 R.l, .int .i64 R.m]) := R1.out.below b1a
  have S1a := b1a.size
  have B1a := chainB B1.out b1a
  rcases hr with rfl | ⟨hr0, hr1, l1, l2⟩
  · go_wp2_with fail
    go_ret
    exact ⟨rfl, B1a⟩
  have dr : decide (r < 0) = false := decide_eq_false (by omega)
  clear A1 R1 b1a B1
  obtain ⟨t0, t1, t2, t3⟩ := R1a.out.four
  go_wp2_with fail
  refine (szRul_any R.k R.f R.l R.m r w1a hr0 hr1 (by have := Z2.out.1; unfold maxLen at this; exact this) (by have := Z2.out.2; unfold maxLen at this; exact this)).mono ?_
  rintro e w2 ⟨⟨r2, rfl, hr2⟩, b2⟩
  have A2 : Hid (Bxs w2 w.heap.size 45 #[.slice a0 ss.length cap0, .slice b0 ps.length capb]) := A1a.out.below b2
  have R2 : Hid (Bxs w2 (w.heap.size + 1) 50 #[.string R.k, .string R.f, .int .i64 R.l, .int .i64 R.m]) := R1a.out.below b2
  have S2 := b2.size
  have B2 := chainB B1a b2
  clear t0 t1 t2 t3
  rcases hr2 with rfl | ⟨hr20, hr21⟩
  · go_wp2_with fail
    go_ret
    exact ⟨rfl, B2⟩
  have dr2 : decide (r2 < 0) = false := decide_eq_false (by omega)
  clear A1a R1a b2 B1a dr hr0 hr1 hr21
  obtain ⟨RS, hRS⟩ : ∃ RS, RS = rpR ss ps R := ⟨_, rfl⟩
  obtain ⟨RP, hRP⟩ : ∃ RP, RP = rpH ss ps R := ⟨_, rfl⟩
  obtain ⟨C0, hC0⟩ : ∃ C0, C0 = rpC ss ps R := ⟨_, rfl⟩
  have L1 : RS.length ≤ 1048576 := by
    rw [hRS]
    exact rp_le l1
  have L2 : RP.length ≤ 1048576 := by
    rw [hRP]
    exact ite_le _ ps l2
  have hS : Hid (∀ x q1 c1 q2 c2, RulAt x q1 ss → IntAt x q2 ps → ss.length ≤ c1 → ps.length ≤ c2 → AdOk q1 ss.length c1 → Calls Try.prog 16 #[.agg #[.slice q1 ss.length c1, .slice q2 ps.length c2], .agg #[.string R.k, .string R.f, .int .i64 R.l, .int .i64 R.m]] x fun e x' => ∃ o1 d1 o2 d2, e = .returned (.agg #[.slice o1 RS.length d1, .slice o2 RP.length d2, .int .i64 C0]) ∧ RS.length ≤ d1 ∧ RP.length ≤ d2 ∧ PolO x.heap.size RS RP (.slice o1 RS.length d1) (.slice o2 RP.length d2) x' ∧ Below x.heap.size x x') := by
    intro x q1 c1 q2 c2 h1 h2 m1 m2 a1
    rw [hRS, hRP, hC0]
    refine (specRulePut_any q1 q2 c1 c2 ss ps R x h1 h2 l1 l2 m1 m2 Z1.out Z2.out a1).mono ?_
    rintro e x' ⟨v1, v2, rfl, o, b⟩
    obtain ⟨o1, d1, o2, d2, rfl, rfl, n1, n2⟩ := o.form
    exact ⟨o1, d1, o2, d2, rfl, n1, n2, o, b⟩
  have hI : Hid (∀ x q1 c1 q2 c2, RulAt x q1 ss → IntAt x q2 ps → ss.length ≤ c1 → ps.length ≤ c2 → AdOk q1 ss.length c1 → Calls Try.prog 10 #[.agg #[.slice q1 ss.length c1, .slice q2 ps.length c2], .agg #[.string R.k, .string R.f, .int .i64 R.l, .int .i64 R.m]] x fun e x' => ∃ o1 d1 o2 d2, e = .returned (.agg #[.slice o1 RS.length d1, .slice o2 RP.length d2, .int .i64 C0]) ∧ RS.length ≤ d1 ∧ RP.length ≤ d2 ∧ PolO x.heap.size RS RP (.slice o1 RS.length d1) (.slice o2 RP.length d2) x' ∧ Below x.heap.size x x') := by
    intro x q1 c1 q2 c2 h1 h2 m1 m2 a1
    rw [hRS, hRP, hC0]
    refine (implRulePut_any q1 q2 c1 c2 ss ps R x h1 h2 l1 l2 m1 m2 Z1.out Z2.out).mono ?_
    rintro e x' ⟨v1, v2, rfl, o, b⟩
    obtain ⟨o1, d1, o2, d2, rfl, rfl, n1, n2⟩ := o.form
    exact ⟨o1, d1, o2, d2, rfl, n1, n2, o, b⟩
  clear hRS hRP hC0 Z1 Z2
  have QR : Hid (∀ x, Calls Try.prog 28 #[.agg #[.string R.k, .string R.f, .int .i64 R.l, .int .i64 R.m]] x fun e x1 => e = .returned (.agg #[.string R.k, .string R.f, .int .i64 R.l, .int .i64 R.m]) ∧ Below x.heap.size x x1) := fun x => toRul_any R.k R.f R.l R.m x
  have QP := hS
  have QT : Hid (∀ x, Below w2.heap.size w2 x → Calls Try.prog 25 #[.agg #[.slice a0 ss.length cap0, .slice b0 ps.length capb]] x fun e x1 => ∃ g8 g9, e = .returned (.agg #[.slice (some ⟨g8, 0, none⟩) ss.length ss.length, .slice (some ⟨g9, 0, none⟩) ps.length ps.length]) ∧ RulAt x1 (some ⟨g8, 0, none⟩) ss ∧ IntAt x1 (some ⟨g9, 0, none⟩) ps ∧ Below x.heap.size x x1) := fun x hb => (toPolicy_any a0 b0 cap0 capb ss ps x (P1.out.below (chainB B2 hb)) (P2.out.below (chainB B2 hb)) l1 l2 hcap hcap2).mono (by
    rintro e x1 ⟨g8, g9, _, _, rfl, j1, j2, y⟩
    exact ⟨g8, g9, rfl, j1.at, j2.int, y⟩)
  have HX : Hid (∀ w', Below w2.heap.size w2 w' → (w'.cell? ⟨w.heap.size, 0, none⟩ = some (.slice a0 ss.length cap0) ∧ w'.cell? ⟨w.heap.size, 1, none⟩ = some (.slice b0 ps.length capb)) ∧ w'.cell? ⟨w.heap.size + 1, 0, none⟩ = some (.string R.k) ∧ w'.cell? ⟨w.heap.size + 1, 1, none⟩ = some (.string R.f) ∧ w'.cell? ⟨w.heap.size + 1, 2, none⟩ = some (.int .i64 R.l) ∧ w'.cell? ⟨w.heap.size + 1, 3, none⟩ = some (.int .i64 R.m)) := fun x hb => ⟨(A2.out.below hb).two, (R2.out.below hb).four⟩
  have BR : Below w2.heap.size w2 w2.drew := (Below.refl _ _).drew
  clear hS
  go_upto_region 8 with fail
  go_cut [6] from 23 to 27 (fun s6 wx => ∃ Eb p1 c1 p2 c2, s6 = .pointer (some ⟨Eb, 0, none⟩) ∧ Hid (PuS w2 RS RP C0 Eb p1 c1 p2 c2 wx))
  case first =>
    refine region_till (fun w' => (w'.cell? ⟨w.heap.size, 0, none⟩ = some (.slice a0 ss.length cap0) ∧ w'.cell? ⟨w.heap.size, 1, none⟩ = some (.slice b0 ps.length capb)) ∧ w'.cell? ⟨w.heap.size + 1, 0, none⟩ = some (.string R.k) ∧ w'.cell? ⟨w.heap.size + 1, 1, none⟩ = some (.string R.f) ∧ w'.cell? ⟨w.heap.size + 1, 2, none⟩ = some (.int .i64 R.l) ∧ w'.cell? ⟨w.heap.size + 1, 3, none⟩ = some (.int .i64 R.m)) 6 (by kernel_rfl) (HX.out _ BR) (fun hHeld => ?_)
    generalize w2.drew = x0 at *
    refine till_take 0 (v := ?_) rfl (by kernel_rfl) (by kernel_rfl) (by kernel_rfl) (by kernel_rfl) (fun _ _ _ h => h) hHeld (Or.inl ⟨by rfl, ?_⟩) ?_
    rotate_left
    · (intro w hSw; (try dsimp only at hSw); go_simp; try with_reducible rfl)
    simp only [Act.put, List.setIfInBounds_toArray, List.set_cons_zero, List.set_cons_succ]
    refine till_take 2 (v := ?_) rfl (by kernel_rfl) (by kernel_rfl) (by kernel_rfl) (by kernel_rfl) (fun _ _ _ h => h) hHeld (Or.inl ⟨by rfl, ?_⟩) ?_
    rotate_left
    · (intro w hSw; (try dsimp only at hSw); go_simp; try with_reducible rfl)
    simp only [Act.put, List.setIfInBounds_toArray, List.set_cons_zero, List.set_cons_succ]
    refine till_ready2 1 5 rfl rfl (by kernel_rfl) (fun K hK => ?_) (fun K hK => ?_)
    · go_simp
      (go_at_call 25; refine (QT.out _ BR).mono ?_; rintro e y1 ⟨g8, g9, rfl, j1, j2, z_1⟩)
      have b_1 := chainB BR z_1
      refine hK.out _ _ (HX.out _ b_1) (fun hHeld => ?_)
      clear hK K
      try simp only [Act.put, List.setIfInBounds_toArray, List.set_cons_zero, List.set_cons_succ]
      refine till_ready2 3 5 rfl rfl (by kernel_rfl) (fun K hK => ?_) (fun K hK => ?_)
      · go_simp
        (go_at_call 28; refine (QR.out _).mono ?_; rintro e y2 ⟨rfl, z_2⟩)
        have b_2 := chainB b_1 z_2
        have j1 := j1.below z_2
        have j2 := j2.below z_2
        refine hK.out _ _ (HX.out _ b_2) (fun hHeld => ?_)
        clear hK K
        try simp only [Act.put, List.setIfInBounds_toArray, List.set_cons_zero, List.set_cons_succ]
        refine till_ready2 4 5 rfl rfl (by kernel_rfl) (fun K hK => ?_) (fun K hK => ?_)
        · go_simp
          (go_at_call 16; refine (QP.out _ (some ⟨g8, 0, none⟩) ss.length (some ⟨g9, 0, none⟩) ps.length j1 j2 (Nat.le_refl _) (Nat.le_refl _) (AdOk.new _ _ _ _)).mono ?_; rintro e y3 ⟨o1, d1, o2, d2, rfl, m1, m2, oW, z_3⟩)
          have oL := oW.lower b_2.size
          have b_3 := chainB b_2 z_3
          have j1 := j1.below z_3
          have j2 := j2.below z_3
          refine hK.out _ _ (HX.out _ b_3) (fun hHeld => ?_)
          clear hK K
          try simp only [Act.put, List.setIfInBounds_toArray, List.set_cons_zero, List.set_cons_succ]
          refine till_ready 5 rfl (by kernel_rfl) (fun K hK => ?_)
          go_simp
          have kE : Bxs (y3.alloc (.cells #[.slice none 0 0, .slice none 0 0, .int .i64 0] 32)) y3.heap.size 32 #[.slice none 0 0, .slice none 0 0, .int .i64 0] := Bxs.new _ _ _
          have b_4 : Below w2.heap.size w2 (y3.alloc (.cells #[.slice none 0 0, .slice none 0 0, .int .i64 0] 32)) := alB b_3 _
          have hEb : w2.heap.size ≤ y3.heap.size := b_3.size
          have n1 : some y3.heap.size ≠ (Value.slice o1 RS.length d1).ownBlock := fun e => by have := (oL.lt.1 _ e.symm).2; omega
          have n2 : some y3.heap.size ≠ (Value.slice o2 RP.length d2).ownBlock := fun e => by have := (oL.lt.2 _ e.symm).2; omega
          replace j1 := j1.below (alB (Below.refl _ _) (.cells #[.slice none 0 0, .slice none 0 0, .int .i64 0] 32))
          replace j2 := j2.below (alB (Below.refl _ _) (.cells #[.slice none 0 0, .slice none 0 0, .int .i64 0] 32))
          replace oL := oL.below (alB (Below.refl _ _) (.cells #[.slice none 0 0, .slice none 0 0, .int .i64 0] 32))
          refine hK.out _ _ (HX.out _ b_4) (fun hHeld => ?_)
          clear hK K
          try simp only [Act.put, List.setIfInBounds_toArray, List.set_cons_zero, List.set_cons_succ]
          generalize y3.alloc (.cells #[.slice none 0 0, .slice none 0 0, .int .i64 0] 32) = u at *
          generalize y3.heap.size = Eb at *
          have HP : Hid (PuS w2 RS RP C0 Eb o1 d1 o2 d2 (((u.setCell ⟨Eb, 0, none⟩ (.slice o1 RS.length d1)).setCell ⟨Eb, 1, none⟩ (.slice o2 RP.length d2)).setCell ⟨Eb, 2, none⟩ (.int .i64 C0))) := PuS.put kE hEb oL b_4 m1 m2 n1 n2
          obtain ⟨q0, q1, q2⟩ := kE.three
          have f0 := kE.fr 0
          have f1 := kE.fr 1
          have f2 := kE.fr 2
          refine till_last rfl (by kernel_rfl) (by kernel_rfl) (fun K hK => ?_)
          go_simp
          refine hK.out _ _ ?_
          clear hK K hHeld q0 q1 q2 f0 f1 f2
          go_wp2_with fail
          go_meet
          exact ⟨_, _, _, _, _, rfl, HP⟩
        · go_simp
          have kE : Bxs (y2.alloc (.cells #[.slice none 0 0, .slice none 0 0, .int .i64 0] 32)) y2.heap.size 32 #[.slice none 0 0, .slice none 0 0, .int .i64 0] := Bxs.new _ _ _
          have b_5 : Below w2.heap.size w2 (y2.alloc (.cells #[.slice none 0 0, .slice none 0 0, .int .i64 0] 32)) := alB b_2 _
          have hEb : w2.heap.size ≤ y2.heap.size := b_2.size
          replace j1 := j1.below (alB (Below.refl _ _) (.cells #[.slice none 0 0, .slice none 0 0, .int .i64 0] 32))
          replace j2 := j2.below (alB (Below.refl _ _) (.cells #[.slice none 0 0, .slice none 0 0, .int .i64 0] 32))
          refine hK.out _ _ (HX.out _ b_5) (fun hHeld => ?_)
          clear hK K
          try simp only [Act.put, List.setIfInBounds_toArray, List.set_cons_zero, List.set_cons_succ]
          generalize y2.alloc (.cells #[.slice none 0 0, .slice none 0 0, .int .i64 0] 32) = u at *
          generalize y2.heap.size = Eb at *
          refine till_ready 4 rfl (by kernel_rfl) (fun K hK => ?_)
          go_simp
          (go_at_call 16; refine (QP.out _ (some ⟨g8, 0, none⟩) ss.length (some ⟨g9, 0, none⟩) ps.length j1 j2 (Nat.le_refl _) (Nat.le_refl _) (AdOk.new _ _ _ _)).mono ?_; rintro e y6 ⟨o1, d1, o2, d2, rfl, m1, m2, oW, z_6⟩)
          have oL := oW.lower b_5.size
          have n1 : some Eb ≠ (Value.slice o1 RS.length d1).ownBlock := fun e => by have := (oW.lt.1 _ e.symm).1; have := kE.lt; omega
          have n2 : some Eb ≠ (Value.slice o2 RP.length d2).ownBlock := fun e => by have := (oW.lt.2 _ e.symm).1; have := kE.lt; omega
          have b_6 := chainB b_5 z_6
          have j1 := j1.below z_6
          have j2 := j2.below z_6
          have kE := kE.below z_6
          refine hK.out _ _ (HX.out _ b_6) (fun hHeld => ?_)
          clear hK K
          try simp only [Act.put, List.setIfInBounds_toArray, List.set_cons_zero, List.set_cons_succ]
          have HP : Hid (PuS w2 RS RP C0 Eb o1 d1 o2 d2 (((y6.setCell ⟨Eb, 0, none⟩ (.slice o1 RS.length d1)).setCell ⟨Eb, 1, none⟩ (.slice o2 RP.length d2)).setCell ⟨Eb, 2, none⟩ (.int .i64 C0))) := PuS.put kE hEb oL b_6 m1 m2 n1 n2
          obtain ⟨q0, q1, q2⟩ := kE.three
          have f0 := kE.fr 0
          have f1 := kE.fr 1
          have f2 := kE.fr 2
          refine till_last rfl (by kernel_rfl) (by kernel_rfl) (fun K hK => ?_)
          go_simp
          refine hK.out _ _ ?_
          clear hK K hHeld q0 q1 q2 f0 f1 f2
          go_wp2_with fail
          go_meet
          exact ⟨_, _, _, _, _, rfl, HP⟩
      · go_simp
        have kE : Bxs (y1.alloc (.cells #[.slice none 0 0, .slice none 0 0, .int .i64 0] 32)) y1.heap.size 32 #[.slice none 0 0, .slice none 0 0, .int .i64 0] := Bxs.new _ _ _
        have b_7 : Below w2.heap.size w2 (y1.alloc (.cells #[.slice none 0 0, .slice none 0 0, .int .i64 0] 32)) := alB b_1 _
        have hEb : w2.heap.size ≤ y1.heap.size := b_1.size
        replace j1 := j1.below (alB (Below.refl _ _) (.cells #[.slice none 0 0, .slice none 0 0, .int .i64 0] 32))
        replace j2 := j2.below (alB (Below.refl _ _) (.cells #[.slice none 0 0, .slice none 0 0, .int .i64 0] 32))
        refine hK.out _ _ (HX.out _ b_7) (fun hHeld => ?_)
        clear hK K
        try simp only [Act.put, List.setIfInBounds_toArray, List.set_cons_zero, List.set_cons_succ]
        generalize y1.alloc (.cells #[.slice none 0 0, .slice none 0 0, .int .i64 0] 32) = u at *
        generalize y1.heap.size = Eb at *
        refine till_ready 3 rfl (by kernel_rfl) (fun K hK => ?_)
        go_simp
        (go_at_call 28; refine (QR.out _).mono ?_; rintro e y8 ⟨rfl, z_8⟩)
        have b_8 := chainB b_7 z_8
        have j1 := j1.below z_8
        have j2 := j2.below z_8
        have kE := kE.below z_8
        refine hK.out _ _ (HX.out _ b_8) (fun hHeld => ?_)
        clear hK K
        try simp only [Act.put, List.setIfInBounds_toArray, List.set_cons_zero, List.set_cons_succ]
        refine till_ready 4 rfl (by kernel_rfl) (fun K hK => ?_)
        go_simp
        (go_at_call 16; refine (QP.out _ (some ⟨g8, 0, none⟩) ss.length (some ⟨g9, 0, none⟩) ps.length j1 j2 (Nat.le_refl _) (Nat.le_refl _) (AdOk.new _ _ _ _)).mono ?_; rintro e y9 ⟨o1, d1, o2, d2, rfl, m1, m2, oW, z_9⟩)
        have oL := oW.lower b_8.size
        have n1 : some Eb ≠ (Value.slice o1 RS.length d1).ownBlock := fun e => by have := (oW.lt.1 _ e.symm).1; have := kE.lt; omega
        have n2 : some Eb ≠ (Value.slice o2 RP.length d2).ownBlock := fun e => by have := (oW.lt.2 _ e.symm).1; have := kE.lt; omega
        have b_9 := chainB b_8 z_9
        have j1 := j1.below z_9
        have j2 := j2.below z_9
        have kE := kE.below z_9
        refine hK.out _ _ (HX.out _ b_9) (fun hHeld => ?_)
        clear hK K
        try simp only [Act.put, List.setIfInBounds_toArray, List.set_cons_zero, List.set_cons_succ]
        have HP : Hid (PuS w2 RS RP C0 Eb o1 d1 o2 d2 (((y9.setCell ⟨Eb, 0, none⟩ (.slice o1 RS.length d1)).setCell ⟨Eb, 1, none⟩ (.slice o2 RP.length d2)).setCell ⟨Eb, 2, none⟩ (.int .i64 C0))) := PuS.put kE hEb oL b_9 m1 m2 n1 n2
        obtain ⟨q0, q1, q2⟩ := kE.three
        have f0 := kE.fr 0
        have f1 := kE.fr 1
        have f2 := kE.fr 2
        refine till_last rfl (by kernel_rfl) (by kernel_rfl) (fun K hK => ?_)
        go_simp
        refine hK.out _ _ ?_
        clear hK K hHeld q0 q1 q2 f0 f1 f2
        go_wp2_with fail
        go_meet
        exact ⟨_, _, _, _, _, rfl, HP⟩
    · go_simp
      have kE : Bxs (x0.alloc (.cells #[.slice none 0 0, .slice none 0 0, .int .i64 0] 32)) x0.heap.size 32 #[.slice none 0 0, .slice none 0 0, .int .i64 0] := Bxs.new _ _ _
      have b_10 : Below w2.heap.size w2 (x0.alloc (.cells #[.slice none 0 0, .slice none 0 0, .int .i64 0] 32)) := alB BR _
      have hEb : w2.heap.size ≤ x0.heap.size := BR.size
      refine hK.out _ _ (HX.out _ b_10) (fun hHeld => ?_)
      clear hK K
      try simp only [Act.put, List.setIfInBounds_toArray, List.set_cons_zero, List.set_cons_succ]
      generalize x0.alloc (.cells #[.slice none 0 0, .slice none 0 0, .int .i64 0] 32) = u at *
      generalize x0.heap.size = Eb at *
      refine till_ready 1 rfl (by kernel_rfl) (fun K hK => ?_)
      go_simp
      (go_at_call 25; refine (QT.out _ b_10).mono ?_; rintro e y11 ⟨g8, g9, rfl, j1, j2, z_11⟩)
      have b_11 := chainB b_10 z_11
      have kE := kE.below z_11
      refine hK.out _ _ (HX.out _ b_11) (fun hHeld => ?_)
      clear hK K
      try simp only [Act.put, List.setIfInBounds_toArray, List.set_cons_zero, List.set_cons_succ]
      refine till_ready 3 rfl (by kernel_rfl) (fun K hK => ?_)
      go_simp
      (go_at_call 28; refine (QR.out _).mono ?_; rintro e y12 ⟨rfl, z_12⟩)
      have b_12 := chainB b_11 z_12
      have j1 := j1.below z_12
      have j2 := j2.below z_12
      have kE := kE.below z_12
      refine hK.out _ _ (HX.out _ b_12) (fun hHeld => ?_)
      clear hK K
      try simp only [Act.put, List.setIfInBounds_toArray, List.set_cons_zero, List.set_cons_succ]
      refine till_ready 4 rfl (by kernel_rfl) (fun K hK => ?_)
      go_simp
      (go_at_call 16; refine (QP.out _ (some ⟨g8, 0, none⟩) ss.length (some ⟨g9, 0, none⟩) ps.length j1 j2 (Nat.le_refl _) (Nat.le_refl _) (AdOk.new _ _ _ _)).mono ?_; rintro e y13 ⟨o1, d1, o2, d2, rfl, m1, m2, oW, z_13⟩)
      have oL := oW.lower b_12.size
      have n1 : some Eb ≠ (Value.slice o1 RS.length d1).ownBlock := fun e => by have := (oW.lt.1 _ e.symm).1; have := kE.lt; omega
      have n2 : some Eb ≠ (Value.slice o2 RP.length d2).ownBlock := fun e => by have := (oW.lt.2 _ e.symm).1; have := kE.lt; omega
      have b_13 := chainB b_12 z_13
      have j1 := j1.below z_13
      have j2 := j2.below z_13
      have kE := kE.below z_13
      refine hK.out _ _ (HX.out _ b_13) (fun hHeld => ?_)
      clear hK K
      try simp only [Act.put, List.setIfInBounds_toArray, List.set_cons_zero, List.set_cons_succ]
      have HP : Hid (PuS w2 RS RP C0 Eb o1 d1 o2 d2 (((y13.setCell ⟨Eb, 0, none⟩ (.slice o1 RS.length d1)).setCell ⟨Eb, 1, none⟩ (.slice o2 RP.length d2)).setCell ⟨Eb, 2, none⟩ (.int .i64 C0))) := PuS.put kE hEb oL b_13 m1 m2 n1 n2
      obtain ⟨q0, q1, q2⟩ := kE.three
      have f0 := kE.fr 0
      have f1 := kE.fr 1
      have f2 := kE.fr 2
      refine till_last rfl (by kernel_rfl) (by kernel_rfl) (fun K hK => ?_)
      go_simp
      refine hK.out _ _ ?_
      clear hK K hHeld q0 q1 q2 f0 f1 f2
      go_wp2_with fail
      go_meet
      exact ⟨_, _, _, _, _, rfl, HP⟩
  case rest =>
  obtain ⟨Eb, pw1, cw1, pw2, cw2, rfl, hPW⟩ := hcut
  rename World => W5
  clear QP QT HX BR
  have b5 := hPW.out.bel
  have mw1 := hPW.out.m1
  have mw2 := hPW.out.m2
  have E5 : Hid (Bxs W5 Eb 32 #[.slice pw1 RS.length cw1, .slice pw2 RP.length cw2, .int .i64 C0]) := hPW.out.box
  have OW5 : Hid (PolO w2.heap.size RS RP (.slice pw1 RS.length cw1) (.slice pw2 RP.length cw2) W5) := hPW.out.pol
  have IW : Hid (In2 (.slice pw1 RS.length cw1) (.slice pw2 RP.length cw2) w2.heap.size W5.heap.size) := hPW.out.pol.in2
  have A5 : Hid (Bxs W5 w.heap.size 45 #[.slice a0 ss.length cap0, .slice b0 ps.length capb]) := A2.out.below b5
  have R5 : Hid (Bxs W5 (w.heap.size + 1) 50 #[.string R.k, .string R.f, .int .i64 R.l, .int .i64 R.m]) := R2.out.below b5
  have S5a := b5.size
  have S5 := E5.out.lt
  have B5 := chainB B2 b5
  obtain ⟨y0, y1⟩ := A5.out.two
  clear b5 A2 R2 hPW
  go_wp2_with fail
  refine (toPolicy_any a0 b0 cap0 capb ss ps W5 (P1.out.below B5) (P2.out.below B5) l1 l2 hcap hcap2).mono ?_
  rintro e w6 ⟨g6, g7, hg6, hg7, rfl, k6, k7, b6⟩
  obtain ⟨W7, hW7⟩ : ∃ W7, W7 = w6.alloc (.cells #[.slice (some ⟨g6, 0, none⟩) ss.length ss.length, .slice (some ⟨g7, 0, none⟩) ps.length ps.length] 26) := ⟨_, rfl⟩
  have HW7 : Hid (W7 = w6.alloc (.cells #[.slice (some ⟨g6, 0, none⟩) ss.length ss.length, .slice (some ⟨g7, 0, none⟩) ps.length ps.length] 26)) := hW7
  have b7 : Below w6.heap.size w6 W7 := by rw [hW7]; exact (Below.refl _ _).alloc (Nat.le_refl _) _
  have X7 : Hid (Bxs W7 w6.heap.size 26 #[.slice (some ⟨g6, 0, none⟩) ss.length ss.length, .slice (some ⟨g7, 0, none⟩) ps.length ps.length]) := by rw [hW7]; exact Bxs.new _ _ _
  have S6 := b6.size
  have hg7s := k7.lt
  have S7 := X7.out.lt
  have K6 : Hid (BlkU W7 g6 ss) := k6.below b7
  have K7 : Hid (BlkI W7 g7 ps) := k7.below b7 k7.lt
  have hg6s := Bxs.lt K6.out
  have b67 := chainB b6 b7
  have A7 : Hid (Bxs W7 w.heap.size 45 #[.slice a0 ss.length cap0, .slice b0 ps.length capb]) := A5.out.below b67
  have R7 : Hid (Bxs W7 (w.heap.size + 1) 50 #[.string R.k, .string R.f, .int .i64 R.l, .int .i64 R.m]) := R5.out.below b67
  have E7 : Hid (Bxs W7 Eb 32 #[.slice pw1 RS.length cw1, .slice pw2 RP.length cw2, .int .i64 C0]) := E5.out.below b67
  have OW7 : Hid (PolO w2.heap.size RS RP (.slice pw1 RS.length cw1) (.slice pw2 RP.length cw2) W7) := OW5.out.below b67
  have B7 := chainB B5 b67
  have QP : Hid (∀ x, Below W7.heap.size W7 x → Calls Try.prog 10 #[.agg #[.slice (some ⟨g6, 0, none⟩) ss.length ss.length, .slice (some ⟨g7, 0, none⟩) ps.length ps.length], .agg #[.string R.k, .string R.f, .int .i64 R.l, .int .i64 R.m]] x fun e x' => ∃ o1 d1 o2 d2, e = .returned (.agg #[.slice o1 RS.length d1, .slice o2 RP.length d2, .int .i64 C0]) ∧ RS.length ≤ d1 ∧ RP.length ≤ d2 ∧ PolO x.heap.size RS RP (.slice o1 RS.length d1) (.slice o2 RP.length d2) x' ∧ Below x.heap.size x x') := fun x hb => hI.out x _ ss.length _ ps.length (K6.out.at.below hb) (K7.out.int.below hb) (Nat.le_refl _) (Nat.le_refl _) (AdOk.new _ _ _ _)
  have HX : Hid (∀ w', Below W7.heap.size W7 w' → (w'.cell? ⟨w6.heap.size, 0, none⟩ = some (.slice (some ⟨g6, 0, none⟩) ss.length ss.length) ∧ w'.cell? ⟨w6.heap.size, 1, none⟩ = some (.slice (some ⟨g7, 0, none⟩) ps.length ps.length)) ∧ w'.cell? ⟨w.heap.size + 1, 0, none⟩ = some (.string R.k) ∧ w'.cell? ⟨w.heap.size + 1, 1, none⟩ = some (.string R.f) ∧ w'.cell? ⟨w.heap.size + 1, 2, none⟩ = some (.int .i64 R.l) ∧ w'.cell? ⟨w.heap.size + 1, 3, none⟩ = some (.int .i64 R.m)) := fun x hb => ⟨(X7.out.below hb).two, (R7.out.below hb).four⟩
  have BR : Below W7.heap.size W7 W7.drew := (Below.refl _ _).drew
  clear y0 y1 hW7 b7 b67 k6 k7 b6 A5 R5 E5 OW5
  go_upto_region 10 with (first | fail)
  rw [← HW7.out]
  go_cut [8] from 30 to 33 (fun s6 wx => ∃ Eb p1 c1 p2 c2, s6 = .pointer (some ⟨Eb, 0, none⟩) ∧ Hid (PuS W7 RS RP C0 Eb p1 c1 p2 c2 wx))
  case first =>
    refine region_till (fun w' => (w'.cell? ⟨w6.heap.size, 0, none⟩ = some (.slice (some ⟨g6, 0, none⟩) ss.length ss.length) ∧ w'.cell? ⟨w6.heap.size, 1, none⟩ = some (.slice (some ⟨g7, 0, none⟩) ps.length ps.length)) ∧ w'.cell? ⟨w.heap.size + 1, 0, none⟩ = some (.string R.k) ∧ w'.cell? ⟨w.heap.size + 1, 1, none⟩ = some (.string R.f) ∧ w'.cell? ⟨w.heap.size + 1, 2, none⟩ = some (.int .i64 R.l) ∧ w'.cell? ⟨w.heap.size + 1, 3, none⟩ = some (.int .i64 R.m)) 5 (by kernel_rfl) (HX.out _ BR) (fun hHeld => ?_)
    generalize W7.drew = x0 at *
    refine till_take 0 (v := ?_) rfl (by kernel_rfl) (by kernel_rfl) (by kernel_rfl) (by kernel_rfl) (fun _ _ _ h => h) hHeld (Or.inl ⟨by rfl, ?_⟩) ?_
    rotate_left
    · (intro w hSw; (try dsimp only at hSw); go_simp; try with_reducible rfl)
    simp only [Act.put, List.setIfInBounds_toArray, List.set_cons_zero, List.set_cons_succ]
    refine till_take 1 (v := ?_) rfl (by kernel_rfl) (by kernel_rfl) (by kernel_rfl) (by kernel_rfl) (fun _ _ _ h => h) hHeld (Or.inl ⟨by rfl, ?_⟩) ?_
    rotate_left
    · (intro w hSw; (try dsimp only at hSw); go_simp; try with_reducible rfl)
    simp only [Act.put, List.setIfInBounds_toArray, List.set_cons_zero, List.set_cons_succ]
    refine till_ready2 2 4 rfl rfl (by kernel_rfl) (fun K hK => ?_) (fun K hK => ?_)
    · go_simp
      (go_at_call 28; refine (QR.out _).mono ?_; rintro e y1 ⟨rfl, z_1⟩)
      have b_1 := chainB BR z_1
      refine hK.out _ _ (HX.out _ b_1) (fun hHeld => ?_)
      clear hK K
      try simp only [Act.put, List.setIfInBounds_toArray, List.set_cons_zero, List.set_cons_succ]
      refine till_ready2 3 4 rfl rfl (by kernel_rfl) (fun K hK => ?_) (fun K hK => ?_)
      · go_simp
        (go_at_call 10; refine (QP.out _ b_1).mono ?_; rintro e y2 ⟨o1, d1, o2, d2, rfl, m1, m2, oW, z_2⟩)
        have oL := oW.lower b_1.size
        have b_2 := chainB b_1 z_2
        refine hK.out _ _ (HX.out _ b_2) (fun hHeld => ?_)
        clear hK K
        try simp only [Act.put, List.setIfInBounds_toArray, List.set_cons_zero, List.set_cons_succ]
        refine till_ready 4 rfl (by kernel_rfl) (fun K hK => ?_)
        go_simp
        have kE : Bxs (y2.alloc (.cells #[.slice none 0 0, .slice none 0 0, .int .i64 0] 32)) y2.heap.size 32 #[.slice none 0 0, .slice none 0 0, .int .i64 0] := Bxs.new _ _ _
        have b_3 : Below W7.heap.size W7 (y2.alloc (.cells #[.slice none 0 0, .slice none 0 0, .int .i64 0] 32)) := alB b_2 _
        have hEb : W7.heap.size ≤ y2.heap.size := b_2.size
        have n1 : some y2.heap.size ≠ (Value.slice o1 RS.length d1).ownBlock := fun e => by have := (oL.lt.1 _ e.symm).2; omega
        have n2 : some y2.heap.size ≠ (Value.slice o2 RP.length d2).ownBlock := fun e => by have := (oL.lt.2 _ e.symm).2; omega
        replace oL := oL.below (alB (Below.refl _ _) (.cells #[.slice none 0 0, .slice none 0 0, .int .i64 0] 32))
        refine hK.out _ _ (HX.out _ b_3) (fun hHeld => ?_)
        clear hK K
        try simp only [Act.put, List.setIfInBounds_toArray, List.set_cons_zero, List.set_cons_succ]
        generalize y2.alloc (.cells #[.slice none 0 0, .slice none 0 0, .int .i64 0] 32) = u at *
        generalize y2.heap.size = Eb at *
        have HP : Hid (PuS W7 RS RP C0 Eb o1 d1 o2 d2 (((u.setCell ⟨Eb, 0, none⟩ (.slice o1 RS.length d1)).setCell ⟨Eb, 1, none⟩ (.slice o2 RP.length d2)).setCell ⟨Eb, 2, none⟩ (.int .i64 C0))) := PuS.put kE hEb oL b_3 m1 m2 n1 n2
        obtain ⟨q0, q1, q2⟩ := kE.three
        have f0 := kE.fr 0
        have f1 := kE.fr 1
        have f2 := kE.fr 2
        refine till_last rfl (by kernel_rfl) (by kernel_rfl) (fun K hK => ?_)
        go_simp
        refine hK.out _ _ ?_
        clear hK K hHeld q0 q1 q2 f0 f1 f2
        go_wp2_with fail
        go_meet
        exact ⟨_, _, _, _, _, rfl, HP⟩
      · go_simp
        have kE : Bxs (y1.alloc (.cells #[.slice none 0 0, .slice none 0 0, .int .i64 0] 32)) y1.heap.size 32 #[.slice none 0 0, .slice none 0 0, .int .i64 0] := Bxs.new _ _ _
        have b_4 : Below W7.heap.size W7 (y1.alloc (.cells #[.slice none 0 0, .slice none 0 0, .int .i64 0] 32)) := alB b_1 _
        have hEb : W7.heap.size ≤ y1.heap.size := b_1.size
        refine hK.out _ _ (HX.out _ b_4) (fun hHeld => ?_)
        clear hK K
        try simp only [Act.put, List.setIfInBounds_toArray, List.set_cons_zero, List.set_cons_succ]
        generalize y1.alloc (.cells #[.slice none 0 0, .slice none 0 0, .int .i64 0] 32) = u at *
        generalize y1.heap.size = Eb at *
        refine till_ready 3 rfl (by kernel_rfl) (fun K hK => ?_)
        go_simp
        (go_at_call 10; refine (QP.out _ b_4).mono ?_; rintro e y5 ⟨o1, d1, o2, d2, rfl, m1, m2, oW, z_5⟩)
        have oL := oW.lower b_4.size
        have n1 : some Eb ≠ (Value.slice o1 RS.length d1).ownBlock := fun e => by have := (oW.lt.1 _ e.symm).1; have := kE.lt; omega
        have n2 : some Eb ≠ (Value.slice o2 RP.length d2).ownBlock := fun e => by have := (oW.lt.2 _ e.symm).1; have := kE.lt; omega
        have b_5 := chainB b_4 z_5
        have kE := kE.below z_5
        refine hK.out _ _ (HX.out _ b_5) (fun hHeld => ?_)
        clear hK K
        try simp only [Act.put, List.setIfInBounds_toArray, List.set_cons_zero, List.set_cons_succ]
        have HP : Hid (PuS W7 RS RP C0 Eb o1 d1 o2 d2 (((y5.setCell ⟨Eb, 0, none⟩ (.slice o1 RS.length d1)).setCell ⟨Eb, 1, none⟩ (.slice o2 RP.length d2)).setCell ⟨Eb, 2, none⟩ (.int .i64 C0))) := PuS.put kE hEb oL b_5 m1 m2 n1 n2
        obtain ⟨q0, q1, q2⟩ := kE.three
        have f0 := kE.fr 0
        have f1 := kE.fr 1
        have f2 := kE.fr 2
        refine till_last rfl (by kernel_rfl) (by kernel_rfl) (fun K hK => ?_)
        go_simp
        refine hK.out _ _ ?_
        clear hK K hHeld q0 q1 q2 f0 f1 f2
        go_wp2_with fail
        go_meet
        exact ⟨_, _, _, _, _, rfl, HP⟩
    · go_simp
      have kE : Bxs (x0.alloc (.cells #[.slice none 0 0, .slice none 0 0, .int .i64 0] 32)) x0.heap.size 32 #[.slice none 0 0, .slice none 0 0, .int .i64 0] := Bxs.new _ _ _
      have b_6 : Below W7.heap.size W7 (x0.alloc (.cells #[.slice none 0 0, .slice none 0 0, .int .i64 0] 32)) := alB BR _
      have hEb : W7.heap.size ≤ x0.heap.size := BR.size
      refine hK.out _ _ (HX.out _ b_6) (fun hHeld => ?_)
      clear hK K
      try simp only [Act.put, List.setIfInBounds_toArray, List.set_cons_zero, List.set_cons_succ]
      generalize x0.alloc (.cells #[.slice none 0 0, .slice none 0 0, .int .i64 0] 32) = u at *
      generalize x0.heap.size = Eb at *
      refine till_ready 2 rfl (by kernel_rfl) (fun K hK => ?_)
      go_simp
      (go_at_call 28; refine (QR.out _).mono ?_; rintro e y7 ⟨rfl, z_7⟩)
      have b_7 := chainB b_6 z_7
      have kE := kE.below z_7
      refine hK.out _ _ (HX.out _ b_7) (fun hHeld => ?_)
      clear hK K
      try simp only [Act.put, List.setIfInBounds_toArray, List.set_cons_zero, List.set_cons_succ]
      refine till_ready 3 rfl (by kernel_rfl) (fun K hK => ?_)
      go_simp
      (go_at_call 10; refine (QP.out _ b_7).mono ?_; rintro e y8 ⟨o1, d1, o2, d2, rfl, m1, m2, oW, z_8⟩)
      have oL := oW.lower b_7.size
      have n1 : some Eb ≠ (Value.slice o1 RS.length d1).ownBlock := fun e => by have := (oW.lt.1 _ e.symm).1; have := kE.lt; omega
      have n2 : some Eb ≠ (Value.slice o2 RP.length d2).ownBlock := fun e => by have := (oW.lt.2 _ e.symm).1; have := kE.lt; omega
      have b_8 := chainB b_7 z_8
      have kE := kE.below z_8
      refine hK.out _ _ (HX.out _ b_8) (fun hHeld => ?_)
      clear hK K
      try simp only [Act.put, List.setIfInBounds_toArray, List.set_cons_zero, List.set_cons_succ]
      have HP : Hid (PuS W7 RS RP C0 Eb o1 d1 o2 d2 (((y8.setCell ⟨Eb, 0, none⟩ (.slice o1 RS.length d1)).setCell ⟨Eb, 1, none⟩ (.slice o2 RP.length d2)).setCell ⟨Eb, 2, none⟩ (.int .i64 C0))) := PuS.put kE hEb oL b_8 m1 m2 n1 n2
      obtain ⟨q0, q1, q2⟩ := kE.three
      have f0 := kE.fr 0
      have f1 := kE.fr 1
      have f2 := kE.fr 2
      refine till_last rfl (by kernel_rfl) (by kernel_rfl) (fun K hK => ?_)
      go_simp
      refine hK.out _ _ ?_
      clear hK K hHeld q0 q1 q2 f0 f1 f2
      go_wp2_with fail
      go_meet
      exact ⟨_, _, _, _, _, rfl, HP⟩
  case rest =>
  obtain ⟨Gb, pg1, cg1, pg2, cg2, rfl, hPG⟩ := hcut
  rename World => W9
  clear QP HX BR
  have b89 := hPG.out.bel
  have mg1 := hPG.out.m1
  have mg2 := hPG.out.m2
  have Ge := hPG.out.eb
  have NG : Hid (some Gb ≠ (Value.slice pg1 RS.length cg1).ownBlock ∧ some Gb ≠ (Value.slice pg2 RP.length cg2).ownBlock) := ⟨hPG.out.n1, hPG.out.n2⟩
  have G9 : Hid (Bxs W9 Gb 32 #[.slice pg1 RS.length cg1, .slice pg2 RP.length cg2, .int .i64 C0]) := hPG.out.box
  have OG9 : Hid (PolO W7.heap.size RS RP (.slice pg1 RS.length cg1) (.slice pg2 RP.length cg2) W9) := hPG.out.pol
  have IG : Hid (In2 (.slice pg1 RS.length cg1) (.slice pg2 RP.length cg2) W7.heap.size W9.heap.size) := hPG.out.pol.in2
  have S8 := b89.size
  have S9 := G9.out.lt
  have A9 : Hid (Bxs W9 w.heap.size 45 #[.slice a0 ss.length cap0, .slice b0 ps.length capb]) := A7.out.below b89
  have R9 : Hid (Bxs W9 (w.heap.size + 1) 50 #[.string R.k, .string R.f, .int .i64 R.l, .int .i64 R.m]) := R7.out.below b89
  have E9 : Hid (Bxs W9 Eb 32 #[.slice pw1 RS.length cw1, .slice pw2 RP.length cw2, .int .i64 C0]) := E7.out.below b89
  have X9 : Hid (Bxs W9 w6.heap.size 26 #[.slice (some ⟨g6, 0, none⟩) ss.length ss.length, .slice (some ⟨g7, 0, none⟩) ps.length ps.length]) := X7.out.below b89
  have K9 : Hid (BlkU W9 g6 ss) := K6.out.below b89
  have J9 : Hid (BlkI W9 g7 ps) := K7.out.below b89 K7.out.lt
  have OW9 : Hid (PolO w2.heap.size RS RP (.slice pw1 RS.length cw1) (.slice pw2 RP.length cw2) W9) := OW7.out.below b89
  have B9 := chainB B7 b89
  obtain ⟨y0, y1, y2⟩ := E9.out.three
  obtain ⟨z0, z1, z2⟩ := G9.out.three
  have HEQ : Hid (∀ x, PolO W7.heap.size RS RP (.slice pg1 RS.length cg1) (.slice pg2 RP.length cg2) x → PolO w2.heap.size RS RP (.slice pw1 RS.length cw1) (.slice pw2 RP.length cw2) x → Calls Try.prog 29 #[.agg #[.slice pg1 RS.length cg1, .slice pg2 RP.length cg2, .int .i64 C0], .agg #[.slice pw1 RS.length cw1, .slice pw2 RP.length cw2, .int .i64 C0]] x fun e x' => e = .returned (.bool true) ∧ Below x.heap.size x x') := fun x h1 h2 => eqPolicyOut_any C0 _ _ _ _ _ _ _ _ RS RP x h1.read.1 h1.read.2 h2.read.1 h2.read.2 L1 L2 mg1 mg2 mw1 mw2
  clear b89 A7 R7 E7 X7 K6 K7 OW7 hPG
  go_wp2_with fail
  refine (HEQ.out _ OG9.out OW9.out).mono ?_
  rintro e w10 ⟨rfl, b10⟩
  have A10 : Hid (Bxs w10 w.heap.size 45 #[.slice a0 ss.length cap0, .slice b0 ps.length capb]) := A9.out.below b10
  have R10 : Hid (Bxs w10 (w.heap.size + 1) 50 #[.string R.k, .string R.f, .int .i64 R.l, .int .i64 R.m]) := R9.out.below b10
  have E10 : Hid (Bxs w10 Eb 32 #[.slice pw1 RS.length cw1, .slice pw2 RP.length cw2, .int .i64 C0]) := E9.out.below b10
  have X10 : Hid (Bxs w10 w6.heap.size 26 #[.slice (some ⟨g6, 0, none⟩) ss.length ss.length, .slice (some ⟨g7, 0, none⟩) ps.length ps.length]) := X9.out.below b10
  have G10 : Hid (Bxs w10 Gb 32 #[.slice pg1 RS.length cg1, .slice pg2 RP.length cg2, .int .i64 C0]) := G9.out.below b10
  have K10 : Hid (BlkU w10 g6 ss) := K9.out.below b10
  have J10 : Hid (BlkI w10 g7 ps) := J9.out.below b10 J9.out.lt
  have OW10 : Hid (PolO w2.heap.size RS RP (.slice pw1 RS.length cw1) (.slice pw2 RP.length cw2) w10) := OW9.out.below b10
  have OG10 : Hid (PolO W7.heap.size RS RP (.slice pg1 RS.length cg1) (.slice pg2 RP.length cg2) w10) := OG9.out.below b10
  have S10 := b10.size
  have B10 := chainB B9 b10
  clear y0 y1 y2 z0 z1 z2 b10 A9 R9 E9 X9 G9 K9 J9 OW9 OG9
  obtain ⟨x0, x1⟩ := A10.out.two
  obtain ⟨y0, y1⟩ := X10.out.two
  have QT : Hid (∀ x, Below w10.heap.size w10 x → Calls Try.prog 25 #[.agg #[.slice a0 ss.length cap0, .slice b0 ps.length capb]] x fun e x1 => ∃ g8 g9, e = .returned (.agg #[.slice (some ⟨g8, 0, none⟩) ss.length ss.length, .slice (some ⟨g9, 0, none⟩) ps.length ps.length]) ∧ RulAt x1 (some ⟨g8, 0, none⟩) ss ∧ IntAt x1 (some ⟨g9, 0, none⟩) ps ∧ Below w10.heap.size w10 x1) := fun x hb => (toPolicy_any a0 b0 cap0 capb ss ps x (P1.out.below (chainB B10 hb)) (P2.out.below (chainB B10 hb)) l1 l2 hcap hcap2).mono (by
    rintro e x1 ⟨g8, g9, _, _, rfl, j1, j2, y⟩
    exact ⟨g8, g9, rfl, j1.at, j2.int, chainB hb y⟩)
  have QE : Hid (∀ x g8 g9, Below w10.heap.size w10 x → RulAt x (some ⟨g8, 0, none⟩) ss → IntAt x (some ⟨g9, 0, none⟩) ps → Calls Try.prog 26 #[.agg #[.slice (some ⟨g6, 0, none⟩) ss.length ss.length, .slice (some ⟨g7, 0, none⟩) ps.length ps.length], .agg #[.slice (some ⟨g8, 0, none⟩) ss.length ss.length, .slice (some ⟨g9, 0, none⟩) ps.length ps.length]] x fun e x1 => e = .returned (.bool true) ∧ Below w10.heap.size w10 x1) := fun x g8 g9 hb h1 h2 => (eqPolicy_any _ _ _ _ _ _ _ _ ss ps x (K10.out.at.below hb) (J10.out.int.below hb) h1 h2 l1 l2 (Nat.le_refl _) (Nat.le_refl _) (Nat.le_refl _) (Nat.le_refl _)).mono (by
    rintro e x1 ⟨rfl, y⟩
    exact ⟨rfl, chainB hb y⟩)
  have HX10 : Hid (∀ x, Below w10.heap.size w10 x → x.cell? ⟨w6.heap.size, 0, none⟩ = some (.slice (some ⟨g6, 0, none⟩) ss.length ss.length) ∧ x.cell? ⟨w6.heap.size, 1, none⟩ = some (.slice (some ⟨g7, 0, none⟩) ps.length ps.length)) := fun x hb => (X10.out.below hb).two
  have HR10 : Hid (Below w10.heap.size w10 w10) := Below.refl _ _
  go_upto_region 13 with fail
  go_cut [42] from 38 to 42 (fun s35 wx => s35 = .bool false ∧ Hid (Below w10.heap.size w10 wx))
  case first =>
    go_region_with (first
      | (go_at_call 25; refine (QT.out _ (by first | exact HR10.out | exact HR10.out.drew)).mono ?_; rintro e z1 ⟨g8, g9, rfl, j1, j2, z2⟩; obtain ⟨u0, u1⟩ := HX10.out _ z2)
      | (go_at_call 26; refine (QE.out _ g8 g9 (by first | exact z2 | exact z2.drew) (by first | exact j1 | exact j1.below (Below.refl _ _).drew) (by first | exact j2 | exact j2.below (Below.refl _ _).drew)).mono ?_; rintro e z3 ⟨rfl, z4⟩))
    all_goals (go_wp2_with fail; go_meet; exact ⟨rfl, z4⟩)
  case rest =>
  obtain ⟨rfl, hc⟩ := hcut
  have b12 := hc.out
  rename World => w12
  have A12 : Hid (Bxs w12 w.heap.size 45 #[.slice a0 ss.length cap0, .slice b0 ps.length capb]) := A10.out.below b12
  have R12 : Hid (Bxs w12 (w.heap.size + 1) 50 #[.string R.k, .string R.f, .int .i64 R.l, .int .i64 R.m]) := R10.out.below b12
  have E12 : Hid (Bxs w12 Eb 32 #[.slice pw1 RS.length cw1, .slice pw2 RP.length cw2, .int .i64 C0]) := E10.out.below b12
  have X12 : Hid (Bxs w12 w6.heap.size 26 #[.slice (some ⟨g6, 0, none⟩) ss.length ss.length, .slice (some ⟨g7, 0, none⟩) ps.length ps.length]) := X10.out.below b12
  have G12 : Hid (Bxs w12 Gb 32 #[.slice pg1 RS.length cg1, .slice pg2 RP.length cg2, .int .i64 C0]) := G10.out.below b12
  have K12 : Hid (BlkU w12 g6 ss) := K10.out.below b12
  have J12 : Hid (BlkI w12 g7 ps) := J10.out.below b12 J10.out.lt
  have OW12 : Hid (PolO w2.heap.size RS RP (.slice pw1 RS.length cw1) (.slice pw2 RP.length cw2) w12) := OW10.out.below b12
  have OG12 : Hid (PolO W7.heap.size RS RP (.slice pg1 RS.length cg1) (.slice pg2 RP.length cg2) w12) := OG10.out.below b12
  have S12 := b12.size
  have B12 := chainB B10 b12
  have hm12 := markPolicy_any W5.heap.size _ _ ss.length ps.length ss ps w12 (K12.out.own W5.heap.size hg6 (by unfold maxLen; omega)) (J12.out.own W5.heap.size (by omega) (by unfold maxLen; omega)) (.inr (fun h => by simp [Value.ownBlock] at h; omega)) l1 l2
  clear x0 x1 y0 y1 b12 hc A10 R10 E10 X10 G10 K10 J10 OW10 OG10 QT QE HX10 HR10
  obtain ⟨y0, y1⟩ := X12.out.two
  go_wp2_with fail
  refine hm12.mono ?_
  rintro e w13 ⟨rfl, -, -, wm, gm1, gm2⟩
  have gr := Gr2.mk2 gm1 gm2
  have A13 : Hid (Bxs w13 w.heap.size 45 #[.slice a0 ss.length cap0, .slice b0 ps.length capb]) := A12.out.gr2 gr (fun h => by simp [Value.ownBlock] at h; omega) (fun h => by simp [Value.ownBlock] at h; omega)
  have R13 : Hid (Bxs w13 (w.heap.size + 1) 50 #[.string R.k, .string R.f, .int .i64 R.l, .int .i64 R.m]) := R12.out.gr2 gr (fun h => by simp [Value.ownBlock] at h; omega) (fun h => by simp [Value.ownBlock] at h; omega)
  have E13 : Hid (Bxs w13 Eb 32 #[.slice pw1 RS.length cw1, .slice pw2 RP.length cw2, .int .i64 C0]) := E12.out.gr2 gr (fun h => by simp [Value.ownBlock] at h; omega) (fun h => by simp [Value.ownBlock] at h; omega)
  have G13 : Hid (Bxs w13 Gb 32 #[.slice pg1 RS.length cg1, .slice pg2 RP.length cg2, .int .i64 C0]) := G12.out.gr2 gr (fun h => by simp [Value.ownBlock] at h; omega) (fun h => by simp [Value.ownBlock] at h; omega)
  have OW13 : Hid (PolO w2.heap.size RS RP (.slice pw1 RS.length cw1) (.slice pw2 RP.length cw2) w13) := OW12.out.gr2 gr ⟨fun j hj => by have := IW.out.1 j hj; exact ⟨fun h => by simp [Value.ownBlock] at h; omega, fun h => by simp [Value.ownBlock] at h; omega⟩, fun j hj => by have := IW.out.2 j hj; exact ⟨fun h => by simp [Value.ownBlock] at h; omega, fun h => by simp [Value.ownBlock] at h; omega⟩⟩
  have OG13 : Hid (PolO W7.heap.size RS RP (.slice pg1 RS.length cg1) (.slice pg2 RP.length cg2) w13) := OG12.out.gr2 gr ⟨fun j hj => by have := IG.out.1 j hj; exact ⟨fun h => by simp [Value.ownBlock] at h; omega, fun h => by simp [Value.ownBlock] at h; omega⟩, fun j hj => by have := IG.out.2 j hj; exact ⟨fun h => by simp [Value.ownBlock] at h; omega, fun h => by simp [Value.ownBlock] at h; omega⟩⟩
  have B13 : Below w.heap.size w w13 := below_gr2 B12 gr B12.size (fun k h => by simp [Value.ownBlock] at h; omega) (fun k h => by simp [Value.ownBlock] at h; omega)
  have S13 := gr.size
  clear y0 y1 hm12 gm1 gm2 gr A12 R12 E12 X12 G12 K12 J12 OW12 OG12
  obtain ⟨y0, y1, y2⟩ := E13.out.three
  obtain ⟨z0, z1, z2⟩ := G13.out.three
  have d9 : decide ((ps.length : Int) + (4 * (ss.length : Int) + 1) < 0) = false := decide_eq_false (by omega)
  go_wp2_with fail
  refine (HEQ.out _ OG13.out OW13.out).mono ?_
  rintro e w14 ⟨rfl, b14⟩
  have A14 : Hid (Bxs w14 w.heap.size 45 #[.slice a0 ss.length cap0, .slice b0 ps.length capb]) := A13.out.below b14
  have R14 : Hid (Bxs w14 (w.heap.size + 1) 50 #[.string R.k, .string R.f, .int .i64 R.l, .int .i64 R.m]) := R13.out.below b14
  have E14 : Hid (Bxs w14 Eb 32 #[.slice pw1 RS.length cw1, .slice pw2 RP.length cw2, .int .i64 C0]) := E13.out.below b14
  have G14 : Hid (Bxs w14 Gb 32 #[.slice pg1 RS.length cg1, .slice pg2 RP.length cg2, .int .i64 C0]) := G13.out.below b14
  have OW14 : Hid (PolO w2.heap.size RS RP (.slice pw1 RS.length cw1) (.slice pw2 RP.length cw2) w14) := OW13.out.below b14
  have OG14 : Hid (PolO W7.heap.size RS RP (.slice pg1 RS.length cg1) (.slice pg2 RP.length cg2) w14) := OG13.out.below b14
  have S14 := b14.size
  have B14 := chainB B13 b14
  have hm14 := markPolicyOut_any C0 W7.heap.size _ _ cg1 cg2 RS RP w14 OG14.out.own1 OG14.out.own2 OG14.out.ne L1 L2
  clear y0 y1 y2 z0 z1 z2 b14 A13 R13 E13 G13 OW13 OG13
  obtain ⟨z0, z1, z2⟩ := G14.out.three
  go_wp2_with fail
  refine hm14.mono ?_
  rintro e w15 ⟨rfl, oM1, oM2, wm, gm1, gm2⟩
  have gr := Gr2.mk2 gm1 gm2
  have A15 : Hid (Bxs w15 w.heap.size 45 #[.slice a0 ss.length cap0, .slice b0 ps.length capb]) := A14.out.gr2 gr (IG.out.off (.inl (by omega))).1 (IG.out.off (.inl (by omega))).2
  have R15 : Hid (Bxs w15 (w.heap.size + 1) 50 #[.string R.k, .string R.f, .int .i64 R.l, .int .i64 R.m]) := R14.out.gr2 gr (IG.out.off (.inl (by omega))).1 (IG.out.off (.inl (by omega))).2
  have E15 : Hid (Bxs w15 Eb 32 #[.slice pw1 RS.length cw1, .slice pw2 RP.length cw2, .int .i64 C0]) := E14.out.gr2 gr (IG.out.off (.inl (by omega))).1 (IG.out.off (.inl (by omega))).2
  have G15 : Hid (Bxs w15 Gb 32 #[.slice pg1 RS.length cg1, .slice pg2 RP.length cg2, .int .i64 C0]) := G14.out.gr2 gr NG.out.1 NG.out.2
  have OW15 : Hid (PolO w2.heap.size RS RP (.slice pw1 RS.length cw1) (.slice pw2 RP.length cw2) w15) := OW14.out.gr2 gr (IW.out.apart IG.out (.inl (by omega)))
  have B15 : Below w.heap.size w w15 := below_gr2 B14 gr B14.size (fun k h => by have := IG.out.1 k h; omega) (fun k h => by have := IG.out.2 k h; omega)
  have S15 := gr.size
  have hN1 : (muN 1 RS.length).length = RS.length := muN_len 1 RS.length
  have hN2 := miN_len (4 * RS.length + 1) RP.length
  have M15 : Hid (PolO W7.heap.size (muN 1 RS.length) (miN (4 * RS.length + 1) RP.length) (.slice pg1 RS.length cg1) (.slice pg2 RP.length cg2) w15) := ⟨by rw [hN1]; exact oM1, by rw [hN2]; exact oM2, OG14.out.ne⟩
  have HM : Hid (∀ x, PolO W7.heap.size (muN 1 RS.length) (miN (4 * RS.length + 1) RP.length) (.slice pg1 RS.length cg1) (.slice pg2 RP.length cg2) x → Calls Try.prog 32 #[.agg #[.slice pg1 RS.length cg1, .slice pg2 RP.length cg2, .int .i64 C0], .int .i64 1] x fun e x' => e = .returned (.int .i64 ((RP.length : Int) + (4 * (RS.length : Int) + 1))) ∧ Below x.heap.size x x') := fun x h => by
    have h' : PolO W7.heap.size (muN 1 RS.length) (miN (4 * RS.length + 1) RP.length) (.slice pg1 (muN 1 RS.length).length cg1) (.slice pg2 (miN (4 * RS.length + 1) RP.length).length cg2) x := by rw [hN1, hN2]; exact h
    exact heldPolicyOut_any C0 pg1 pg2 cg1 cg2 RS.length RP.length x h'.read.1 h'.read.2 L1 L2 mg1 mg2
  clear z0 z1 z2 hm14 gm1 gm2 gr A14 R14 E14 G14 OW14 OG14 oM1 oM2 hN1 hN2
  obtain ⟨z0, z1, z2⟩ := G15.out.three
  have d10 : decide ((RP.length : Int) + (4 * (RS.length : Int) + 1) < 0) = false := decide_eq_false (by omega)
  go_wp2_with fail
  refine (HM.out _ M15.out).mono ?_
  rintro e w16 ⟨rfl, b16⟩
  have A16 : Hid (Bxs w16 w.heap.size 45 #[.slice a0 ss.length cap0, .slice b0 ps.length capb]) := A15.out.below b16
  have R16 : Hid (Bxs w16 (w.heap.size + 1) 50 #[.string R.k, .string R.f, .int .i64 R.l, .int .i64 R.m]) := R15.out.below b16
  have E16 : Hid (Bxs w16 Eb 32 #[.slice pw1 RS.length cw1, .slice pw2 RP.length cw2, .int .i64 C0]) := E15.out.below b16
  have G16 : Hid (Bxs w16 Gb 32 #[.slice pg1 RS.length cg1, .slice pg2 RP.length cg2, .int .i64 C0]) := G15.out.below b16
  have OW16 : Hid (PolO w2.heap.size RS RP (.slice pw1 RS.length cw1) (.slice pw2 RP.length cw2) w16) := OW15.out.below b16
  have M16 : Hid (PolO W7.heap.size (muN 1 RS.length) (miN (4 * RS.length + 1) RP.length) (.slice pg1 RS.length cg1) (.slice pg2 RP.length cg2) w16) := M15.out.below b16
  have B16 := chainB B15 b16
  clear z0 z1 z2 b16 A15 R15 E15 G15 OW15 M15
  have QP := hI
  have QT : Hid (∀ x, Below w16.heap.size w16 x → Calls Try.prog 25 #[.agg #[.slice a0 ss.length cap0, .slice b0 ps.length capb]] x fun e x1 => ∃ g8 g9, e = .returned (.agg #[.slice (some ⟨g8, 0, none⟩) ss.length ss.length, .slice (some ⟨g9, 0, none⟩) ps.length ps.length]) ∧ RulAt x1 (some ⟨g8, 0, none⟩) ss ∧ IntAt x1 (some ⟨g9, 0, none⟩) ps ∧ Below x.heap.size x x1) := fun x hb => (toPolicy_any a0 b0 cap0 capb ss ps x (P1.out.below (chainB B16 hb)) (P2.out.below (chainB B16 hb)) l1 l2 hcap hcap2).mono (by
    rintro e x1 ⟨g8, g9, _, _, rfl, j1, j2, y⟩
    exact ⟨g8, g9, rfl, j1.at, j2.int, y⟩)
  have HX : Hid (∀ w', Below w16.heap.size w16 w' → (w'.cell? ⟨w.heap.size, 0, none⟩ = some (.slice a0 ss.length cap0) ∧ w'.cell? ⟨w.heap.size, 1, none⟩ = some (.slice b0 ps.length capb)) ∧ w'.cell? ⟨w.heap.size + 1, 0, none⟩ = some (.string R.k) ∧ w'.cell? ⟨w.heap.size + 1, 1, none⟩ = some (.string R.f) ∧ w'.cell? ⟨w.heap.size + 1, 2, none⟩ = some (.int .i64 R.l) ∧ w'.cell? ⟨w.heap.size + 1, 3, none⟩ = some (.int .i64 R.m)) := fun x hb => ⟨(A16.out.below hb).two, (R16.out.below hb).four⟩
  have BR : Below w16.heap.size w16 w16.drew := (Below.refl _ _).drew
  clear hI
  go_upto_region 27 with fail
  go_cut [12] from 65 to 69 (fun s6 wx => ∃ Eb p1 c1 p2 c2, s6 = .pointer (some ⟨Eb, 0, none⟩) ∧ Hid (PuS w16 RS RP C0 Eb p1 c1 p2 c2 wx))
  case first =>
    refine region_till (fun w' => (w'.cell? ⟨w.heap.size, 0, none⟩ = some (.slice a0 ss.length cap0) ∧ w'.cell? ⟨w.heap.size, 1, none⟩ = some (.slice b0 ps.length capb)) ∧ w'.cell? ⟨w.heap.size + 1, 0, none⟩ = some (.string R.k) ∧ w'.cell? ⟨w.heap.size + 1, 1, none⟩ = some (.string R.f) ∧ w'.cell? ⟨w.heap.size + 1, 2, none⟩ = some (.int .i64 R.l) ∧ w'.cell? ⟨w.heap.size + 1, 3, none⟩ = some (.int .i64 R.m)) 6 (by kernel_rfl) (HX.out _ BR) (fun hHeld => ?_)
    generalize w16.drew = x0 at *
    refine till_take 0 (v := ?_) rfl (by kernel_rfl) (by kernel_rfl) (by kernel_rfl) (by kernel_rfl) (fun _ _ _ h => h) hHeld (Or.inl ⟨by rfl, ?_⟩) ?_
    rotate_left
    · (intro w hSw; (try dsimp only at hSw); go_simp; try with_reducible rfl)
    simp only [Act.put, List.setIfInBounds_toArray, List.set_cons_zero, List.set_cons_succ]
    refine till_take 2 (v := ?_) rfl (by kernel_rfl) (by kernel_rfl) (by kernel_rfl) (by kernel_rfl) (fun _ _ _ h => h) hHeld (Or.inl ⟨by rfl, ?_⟩) ?_
    rotate_left
    · (intro w hSw; (try dsimp only at hSw); go_simp; try with_reducible rfl)
    simp only [Act.put, List.setIfInBounds_toArray, List.set_cons_zero, List.set_cons_succ]
    refine till_ready2 1 5 rfl rfl (by kernel_rfl) (fun K hK => ?_) (fun K hK => ?_)
    · go_simp
      (go_at_call 25; refine (QT.out _ BR).mono ?_; rintro e y1 ⟨g8, g9, rfl, j1, j2, z_1⟩)
      have b_1 := chainB BR z_1
      refine hK.out _ _ (HX.out _ b_1) (fun hHeld => ?_)
      clear hK K
      try simp only [Act.put, List.setIfInBounds_toArray, List.set_cons_zero, List.set_cons_succ]
      refine till_ready2 3 5 rfl rfl (by kernel_rfl) (fun K hK => ?_) (fun K hK => ?_)
      · go_simp
        (go_at_call 28; refine (QR.out _).mono ?_; rintro e y2 ⟨rfl, z_2⟩)
        have b_2 := chainB b_1 z_2
        have j1 := j1.below z_2
        have j2 := j2.below z_2
        refine hK.out _ _ (HX.out _ b_2) (fun hHeld => ?_)
        clear hK K
        try simp only [Act.put, List.setIfInBounds_toArray, List.set_cons_zero, List.set_cons_succ]
        refine till_ready2 4 5 rfl rfl (by kernel_rfl) (fun K hK => ?_) (fun K hK => ?_)
        · go_simp
          (go_at_call 10; refine (QP.out _ (some ⟨g8, 0, none⟩) ss.length (some ⟨g9, 0, none⟩) ps.length j1 j2 (Nat.le_refl _) (Nat.le_refl _) (AdOk.new _ _ _ _)).mono ?_; rintro e y3 ⟨o1, d1, o2, d2, rfl, m1, m2, oW, z_3⟩)
          have oL := oW.lower b_2.size
          have b_3 := chainB b_2 z_3
          have j1 := j1.below z_3
          have j2 := j2.below z_3
          refine hK.out _ _ (HX.out _ b_3) (fun hHeld => ?_)
          clear hK K
          try simp only [Act.put, List.setIfInBounds_toArray, List.set_cons_zero, List.set_cons_succ]
          refine till_ready 5 rfl (by kernel_rfl) (fun K hK => ?_)
          go_simp
          have kE : Bxs (y3.alloc (.cells #[.slice none 0 0, .slice none 0 0, .int .i64 0] 32)) y3.heap.size 32 #[.slice none 0 0, .slice none 0 0, .int .i64 0] := Bxs.new _ _ _
          have b_4 : Below w16.heap.size w16 (y3.alloc (.cells #[.slice none 0 0, .slice none 0 0, .int .i64 0] 32)) := alB b_3 _
          have hEb : w16.heap.size ≤ y3.heap.size := b_3.size
          have n1 : some y3.heap.size ≠ (Value.slice o1 RS.length d1).ownBlock := fun e => by have := (oL.lt.1 _ e.symm).2; omega
          have n2 : some y3.heap.size ≠ (Value.slice o2 RP.length d2).ownBlock := fun e => by have := (oL.lt.2 _ e.symm).2; omega
          replace j1 := j1.below (alB (Below.refl _ _) (.cells #[.slice none 0 0, .slice none 0 0, .int .i64 0] 32))
          replace j2 := j2.below (alB (Below.refl _ _) (.cells #[.slice none 0 0, .slice none 0 0, .int .i64 0] 32))
          replace oL := oL.below (alB (Below.refl _ _) (.cells #[.slice none 0 0, .slice none 0 0, .int .i64 0] 32))
          refine hK.out _ _ (HX.out _ b_4) (fun hHeld => ?_)
          clear hK K
          try simp only [Act.put, List.setIfInBounds_toArray, List.set_cons_zero, List.set_cons_succ]
          generalize y3.alloc (.cells #[.slice none 0 0, .slice none 0 0, .int .i64 0] 32) = u at *
          generalize y3.heap.size = Eb at *
          have HP : Hid (PuS w16 RS RP C0 Eb o1 d1 o2 d2 (((u.setCell ⟨Eb, 0, none⟩ (.slice o1 RS.length d1)).setCell ⟨Eb, 1, none⟩ (.slice o2 RP.length d2)).setCell ⟨Eb, 2, none⟩ (.int .i64 C0))) := PuS.put kE hEb oL b_4 m1 m2 n1 n2
          obtain ⟨q0, q1, q2⟩ := kE.three
          have f0 := kE.fr 0
          have f1 := kE.fr 1
          have f2 := kE.fr 2
          refine till_last rfl (by kernel_rfl) (by kernel_rfl) (fun K hK => ?_)
          go_simp
          refine hK.out _ _ ?_
          clear hK K hHeld q0 q1 q2 f0 f1 f2
          go_wp2_with fail
          go_meet
          exact ⟨_, _, _, _, _, rfl, HP⟩
        · go_simp
          have kE : Bxs (y2.alloc (.cells #[.slice none 0 0, .slice none 0 0, .int .i64 0] 32)) y2.heap.size 32 #[.slice none 0 0, .slice none 0 0, .int .i64 0] := Bxs.new _ _ _
          have b_5 : Below w16.heap.size w16 (y2.alloc (.cells #[.slice none 0 0, .slice none 0 0, .int .i64 0] 32)) := alB b_2 _
          have hEb : w16.heap.size ≤ y2.heap.size := b_2.size
          replace j1 := j1.below (alB (Below.refl _ _) (.cells #[.slice none 0 0, .slice none 0 0, .int .i64 0] 32))
          replace j2 := j2.below (alB (Below.refl _ _) (.cells #[.slice none 0 0, .slice none 0 0, .int .i64 0] 32))
          refine hK.out _ _ (HX.out _ b_5) (fun hHeld => ?_)
          clear hK K
          try simp only [Act.put, List.setIfInBounds_toArray, List.set_cons_zero, List.set_cons_succ]
          generalize y2.alloc (.cells #[.slice none 0 0, .slice none 0 0, .int .i64 0] 32) = u at *
          generalize y2.heap.size = Eb at *
          refine till_ready 4 rfl (by kernel_rfl) (fun K hK => ?_)
          go_simp
          (go_at_call 10; refine (QP.out _ (some ⟨g8, 0, none⟩) ss.length (some ⟨g9, 0, none⟩) ps.length j1 j2 (Nat.le_refl _) (Nat.le_refl _) (AdOk.new _ _ _ _)).mono ?_; rintro e y6 ⟨o1, d1, o2, d2, rfl, m1, m2, oW, z_6⟩)
          have oL := oW.lower b_5.size
          have n1 : some Eb ≠ (Value.slice o1 RS.length d1).ownBlock := fun e => by have := (oW.lt.1 _ e.symm).1; have := kE.lt; omega
          have n2 : some Eb ≠ (Value.slice o2 RP.length d2).ownBlock := fun e => by have := (oW.lt.2 _ e.symm).1; have := kE.lt; omega
          have b_6 := chainB b_5 z_6
          have j1 := j1.below z_6
          have j2 := j2.below z_6
          have kE := kE.below z_6
          refine hK.out _ _ (HX.out _ b_6) (fun hHeld => ?_)
          clear hK K
          try simp only [Act.put, List.setIfInBounds_toArray, List.set_cons_zero, List.set_cons_succ]
          have HP : Hid (PuS w16 RS RP C0 Eb o1 d1 o2 d2 (((y6.setCell ⟨Eb, 0, none⟩ (.slice o1 RS.length d1)).setCell ⟨Eb, 1, none⟩ (.slice o2 RP.length d2)).setCell ⟨Eb, 2, none⟩ (.int .i64 C0))) := PuS.put kE hEb oL b_6 m1 m2 n1 n2
          obtain ⟨q0, q1, q2⟩ := kE.three
          have f0 := kE.fr 0
          have f1 := kE.fr 1
          have f2 := kE.fr 2
          refine till_last rfl (by kernel_rfl) (by kernel_rfl) (fun K hK => ?_)
          go_simp
          refine hK.out _ _ ?_
          clear hK K hHeld q0 q1 q2 f0 f1 f2
          go_wp2_with fail
          go_meet
          exact ⟨_, _, _, _, _, rfl, HP⟩
      · go_simp
        have kE : Bxs (y1.alloc (.cells #[.slice none 0 0, .slice none 0 0, .int .i64 0] 32)) y1.heap.size 32 #[.slice none 0 0, .slice none 0 0, .int .i64 0] := Bxs.new _ _ _
        have b_7 : Below w16.heap.size w16 (y1.alloc (.cells #[.slice none 0 0, .slice none 0 0, .int .i64 0] 32)) := alB b_1 _
        have hEb : w16.heap.size ≤ y1.heap.size := b_1.size
        replace j1 := j1.below (alB (Below.refl _ _) (.cells #[.slice none 0 0, .slice none 0 0, .int .i64 0] 32))
        replace j2 := j2.below (alB (Below.refl _ _) (.cells #[.slice none 0 0, .slice none 0 0, .int .i64 0] 32))
        refine hK.out _ _ (HX.out _ b_7) (fun hHeld => ?_)
        clear hK K
        try simp only [Act.put, List.setIfInBounds_toArray, List.set_cons_zero, List.set_cons_succ]
        generalize y1.alloc (.cells #[.slice none 0 0, .slice none 0 0, .int .i64 0] 32) = u at *
        generalize y1.heap.size = Eb at *
        refine till_ready 3 rfl (by kernel_rfl) (fun K hK => ?_)
        go_simp
        (go_at_call 28; refine (QR.out _).mono ?_; rintro e y8 ⟨rfl, z_8⟩)
        have b_8 := chainB b_7 z_8
        have j1 := j1.below z_8
        have j2 := j2.below z_8
        have kE := kE.below z_8
        refine hK.out _ _ (HX.out _ b_8) (fun hHeld => ?_)
        clear hK K
        try simp only [Act.put, List.setIfInBounds_toArray, List.set_cons_zero, List.set_cons_succ]
        refine till_ready 4 rfl (by kernel_rfl) (fun K hK => ?_)
        go_simp
        (go_at_call 10; refine (QP.out _ (some ⟨g8, 0, none⟩) ss.length (some ⟨g9, 0, none⟩) ps.length j1 j2 (Nat.le_refl _) (Nat.le_refl _) (AdOk.new _ _ _ _)).mono ?_; rintro e y9 ⟨o1, d1, o2, d2, rfl, m1, m2, oW, z_9⟩)
        have oL := oW.lower b_8.size
        have n1 : some Eb ≠ (Value.slice o1 RS.length d1).ownBlock := fun e => by have := (oW.lt.1 _ e.symm).1; have := kE.lt; omega
        have n2 : some Eb ≠ (Value.slice o2 RP.length d2).ownBlock := fun e => by have := (oW.lt.2 _ e.symm).1; have := kE.lt; omega
        have b_9 := chainB b_8 z_9
        have j1 := j1.below z_9
        have j2 := j2.below z_9
        have kE := kE.below z_9
        refine hK.out _ _ (HX.out _ b_9) (fun hHeld => ?_)
        clear hK K
        try simp only [Act.put, List.setIfInBounds_toArray, List.set_cons_zero, List.set_cons_succ]
        have HP : Hid (PuS w16 RS RP C0 Eb o1 d1 o2 d2 (((y9.setCell ⟨Eb, 0, none⟩ (.slice o1 RS.length d1)).setCell ⟨Eb, 1, none⟩ (.slice o2 RP.length d2)).setCell ⟨Eb, 2, none⟩ (.int .i64 C0))) := PuS.put kE hEb oL b_9 m1 m2 n1 n2
        obtain ⟨q0, q1, q2⟩ := kE.three
        have f0 := kE.fr 0
        have f1 := kE.fr 1
        have f2 := kE.fr 2
        refine till_last rfl (by kernel_rfl) (by kernel_rfl) (fun K hK => ?_)
        go_simp
        refine hK.out _ _ ?_
        clear hK K hHeld q0 q1 q2 f0 f1 f2
        go_wp2_with fail
        go_meet
        exact ⟨_, _, _, _, _, rfl, HP⟩
    · go_simp
      have kE : Bxs (x0.alloc (.cells #[.slice none 0 0, .slice none 0 0, .int .i64 0] 32)) x0.heap.size 32 #[.slice none 0 0, .slice none 0 0, .int .i64 0] := Bxs.new _ _ _
      have b_10 : Below w16.heap.size w16 (x0.alloc (.cells #[.slice none 0 0, .slice none 0 0, .int .i64 0] 32)) := alB BR _
      have hEb : w16.heap.size ≤ x0.heap.size := BR.size
      refine hK.out _ _ (HX.out _ b_10) (fun hHeld => ?_)
      clear hK K
      try simp only [Act.put, List.setIfInBounds_toArray, List.set_cons_zero, List.set_cons_succ]
      generalize x0.alloc (.cells #[.slice none 0 0, .slice none 0 0, .int .i64 0] 32) = u at *
      generalize x0.heap.size = Eb at *
      refine till_ready 1 rfl (by kernel_rfl) (fun K hK => ?_)
      go_simp
      (go_at_call 25; refine (QT.out _ b_10).mono ?_; rintro e y11 ⟨g8, g9, rfl, j1, j2, z_11⟩)
      have b_11 := chainB b_10 z_11
      have kE := kE.below z_11
      refine hK.out _ _ (HX.out _ b_11) (fun hHeld => ?_)
      clear hK K
      try simp only [Act.put, List.setIfInBounds_toArray, List.set_cons_zero, List.set_cons_succ]
      refine till_ready 3 rfl (by kernel_rfl) (fun K hK => ?_)
      go_simp
      (go_at_call 28; refine (QR.out _).mono ?_; rintro e y12 ⟨rfl, z_12⟩)
      have b_12 := chainB b_11 z_12
      have j1 := j1.below z_12
      have j2 := j2.below z_12
      have kE := kE.below z_12
      refine hK.out _ _ (HX.out _ b_12) (fun hHeld => ?_)
      clear hK K
      try simp only [Act.put, List.setIfInBounds_toArray, List.set_cons_zero, List.set_cons_succ]
      refine till_ready 4 rfl (by kernel_rfl) (fun K hK => ?_)
      go_simp
      (go_at_call 10; refine (QP.out _ (some ⟨g8, 0, none⟩) ss.length (some ⟨g9, 0, none⟩) ps.length j1 j2 (Nat.le_refl _) (Nat.le_refl _) (AdOk.new _ _ _ _)).mono ?_; rintro e y13 ⟨o1, d1, o2, d2, rfl, m1, m2, oW, z_13⟩)
      have oL := oW.lower b_12.size
      have n1 : some Eb ≠ (Value.slice o1 RS.length d1).ownBlock := fun e => by have := (oW.lt.1 _ e.symm).1; have := kE.lt; omega
      have n2 : some Eb ≠ (Value.slice o2 RP.length d2).ownBlock := fun e => by have := (oW.lt.2 _ e.symm).1; have := kE.lt; omega
      have b_13 := chainB b_12 z_13
      have j1 := j1.below z_13
      have j2 := j2.below z_13
      have kE := kE.below z_13
      refine hK.out _ _ (HX.out _ b_13) (fun hHeld => ?_)
      clear hK K
      try simp only [Act.put, List.setIfInBounds_toArray, List.set_cons_zero, List.set_cons_succ]
      have HP : Hid (PuS w16 RS RP C0 Eb o1 d1 o2 d2 (((y13.setCell ⟨Eb, 0, none⟩ (.slice o1 RS.length d1)).setCell ⟨Eb, 1, none⟩ (.slice o2 RP.length d2)).setCell ⟨Eb, 2, none⟩ (.int .i64 C0))) := PuS.put kE hEb oL b_13 m1 m2 n1 n2
      obtain ⟨q0, q1, q2⟩ := kE.three
      have f0 := kE.fr 0
      have f1 := kE.fr 1
      have f2 := kE.fr 2
      refine till_last rfl (by kernel_rfl) (by kernel_rfl) (fun K hK => ?_)
      go_simp
      refine hK.out _ _ ?_
      clear hK K hHeld q0 q1 q2 f0 f1 f2
      go_wp2_with fail
      go_meet
      exact ⟨_, _, _, _, _, rfl, HP⟩
  case rest =>
  obtain ⟨Hb, ph1, ch1, ph2, ch2, rfl, hPH⟩ := hcut
  rename World => W19
  clear QP QT HX BR QR
  have b169 := hPH.out.bel
  have E19 := E16.out.below b169
  have G19 : Hid (Bxs W19 Gb 32 #[.slice pg1 RS.length cg1, .slice pg2 RP.length cg2, .int .i64 C0]) := G16.out.below b169
  have OW19 := OW16.out.below b169
  have M19 : Hid (PolO W7.heap.size (muN 1 RS.length) (miN (4 * RS.length + 1) RP.length) (.slice pg1 RS.length cg1) (.slice pg2 RP.length cg2) W19) := M16.out.below b169
  have OH19 := hPH.out.pol
  have B19 := chainB B16 b169
  obtain ⟨y0, y1, y2⟩ := E19.three
  obtain ⟨z0, z1, z2⟩ := hPH.out.box.three
  have q19 := eqPolicyOut_any C0 ph1 ph2 pw1 pw2 ch1 ch2 cw1 cw2 RS RP W19 OH19.read.1 OH19.read.2 OW19.read.1 OW19.read.2 L1 L2 hPH.out.m1 hPH.out.m2 mw1 mw2
  clear b169 E16 G16 OW16 M16 OH19 OW19 E19 A16 R16 hPH
  go_wp2_with fail
  refine q19.mono ?_
  rintro e w20 ⟨rfl, b20⟩
  have G20 := G19.out.below b20
  have h20 := HM.out _ (M19.out.below b20)
  have B20 := chainB B19 b20
  clear y0 y1 y2 z0 z1 z2 q19 b20 G19 M19
  obtain ⟨z0, z1, z2⟩ := G20.three
  go_wp2_with fail
  refine h20.mono ?_
  rintro e w21 ⟨rfl, b21⟩
  have B21 := chainB B20 b21
  clear z0 z1 z2 h20 G20
  go_wp2_with fail
  go_ret
  exact ⟨rfl, B21⟩

set_option maxRecDepth 100000 in
theorem lifted (os : Os) (started : os.Started) (H : Type) (enc : TypeId × Value → H) :
    ReturnsInHanded {} Try.checked os 5 .any (Rows.fnExactRulePutSpec.pre6 enc Try.prog Try.f5 Rows.fnExactRulePutRow.domain false) (Rows.fnExactRulePutSpec.post enc Try.prog Try.f5 false true false false) := by
  refine returnsInHanded_of_change (C := Try.checked) own started (by kernel_rfl) Try.func5
    (ChangeSpec.witness6 (enc := enc) (C := Try.checked) false ⟨#[], #[.agg #[.slice none 0 0, .slice none 0 0], .agg #[.string ByteArray.empty, .string ByteArray.empty, .int .i64 0, .int .i64 0]], []⟩ 8 (by kernel_rfl) (by kernel_rfl) (by kernel_rfl) (by kernel_rfl)) ?_
  intro W base args ds gs before hval0 hW hcnd _
  have hval : ∀ (j : Nat) t v, Try.f5.params[j]? = some t → args[j]? = some v → Value.okWide Try.prog W .any base t v := hval0
  have hW' := hW
  obtain ⟨p, q, hA0, hV, rfl, hfz, hnd⟩ := hW
  have hA : DataW.TrodAll enc Try.prog W 0 (fun _ => true) true Try.f5.params.toList args.toList ds p := hA0
  rw [Try.params5] at hA hval
  obtain ⟨v0, vs0, d0, ds0, p0, q0, hargs, rfl, rfl, h0, r0⟩ := trodAll_cons hA
  obtain ⟨v1, vs1, d1, ds1, p1, q1, rfl, rfl, rfl, h1, r1⟩ := trodAll_cons r0
  obtain ⟨rfl, rfl, rfl⟩ := trodAll_nil r1
  obtain rfl : args = #[v0, v1] := by cases args; simp_all
  obtain ⟨rfl, rfl⟩ := trodVars_none hV
  have k0 := h0
  have lt0 : ∀ x ∈ p0, x.block < W.heap.size := by obtain ⟨m, hm⟩ := k0; exact DataW.trod_lt m _ _ _ hm
  obtain ⟨a0, len0, cap0, b0, lenb0, capb0, rfl, ⟨ss0, wa0⟩, ⟨ts0, wb0⟩⟩ := open_policy (hval 0 45 v0 rfl rfl) h0
  have w0 := And.intro wa0 wb0
  have k1 := h1
  have lt1 : ∀ x ∈ p1, x.block < W.heap.size := by obtain ⟨m, hm⟩ := k1; exact DataW.trod_lt m _ _ _ hm
  obtain ⟨R1, rfl, w1⟩ := open_rule (hval 1 50 v1 rfl rfl) h1
  clear hA0 hval0
  simp only [List.append_nil] at hW'
  refine (walk a0 len0 cap0 ss0 b0 lenb0 capb0 ts0 R1 W w0 w1).mono fun e W' ⟨he, hg⟩ => ?_
  subst he
  exact ⟨_, rfl, _, _, _, [], _, [], hW', (trodAll_cons_mk (shut_bool Try.underlying4 _) trodAll_mk0), (trodAll_cons_mk (Below.trod laidOut (by kernel_rfl) (of_decide_eq_true (by kernel_rfl)) k0 hg lt0) (trodAll_cons_mk (Below.trod laidOut (by kernel_rfl) (of_decide_eq_true (by kernel_rfl)) k1 hg lt1) trodAll_mk0)), rfl, hg.frame _, fun h => by cases h⟩

theorem over : Rows.fnExactRulePutRow.holds Try.pinned (OpenSpec.ofChange Rows.fnExactRulePutSpec) :=
  OpenClaim.holds_of_wide 5 Try.f5 rfl rfl rfl rfl rfl rfl rfl ⟨rfl, rfl, rfl, rfl, rfl⟩ rfl rfl rfl rfl rfl (by kernel_rfl) Try.func5 (by kernel_rfl)
    (of_decide_eq_true (by kernel_rfl)) (by unfold Func.isWrapper; first | (rw [if_pos (by decide +kernel)]; kernel_rfl) | (rw [if_neg (by decide +kernel)]; exact ⟨rfl, rfl⟩))
    (fun os started H enc _ => lifted os started H enc)

theorem proved : Rows.FnExactRulePutSaid :=
  over
#print axioms proved
end Go.Proofs.Yteehhpmmnpajmaa.fnExactRulePut
