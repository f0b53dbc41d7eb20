/-
  What the program's verdictOn and Judge answer.
-/
import Derived.Test.YthkmeneepkaedaaGreatDoorRows
import Derived.Test.YthkmeneepkaedaaGreatDoorBytesDigMath
import Derived.Test.YthkmeneepkaedaaGreatDoorTreeMathSlASlBBxKOwnS
import Derived.Test.YthkmeneepkaedaaGreatDoorFldGShwKFldHTakesAudMathLawAuOpAuFldRiseScanMath
import Derived.Test.YthkmeneepkaedaaGreatDoorTakesLTillTwoPathMathTree2Path2HalvesTreePutter
import Derived.Test.YthkmeneepkaedaaGreatDoorAsDAs2CodeOfRngXScopesReadBits
import Derived.Test.YthkmeneepkaedaaGreatDoorTimeBPutMathPutNumJoinedPutTextFldMath
import Derived.Test.YthkmeneepkaedaaGreatDoorFldV
import Derived.Test.YthkmeneepkaedaaGreatDoorImplSh
import Derived.Test.YthkmeneepkaedaaGreatDoorGetValGetTxtNumMathFldRdNumFromTmbMathLgMath
import Derived.Test.YthkmeneepkaedaaGreatDoorImplTr
import Derived.Test.YthkmeneepkaedaaGreatDoorLeafK
import Derived.Test.YthkmeneepkaedaaGreatDoorAudI
import Derived.Test.YthkmeneepkaedaaGreatDoorProofG
import Derived.Test.YthkmeneepkaedaaGreatDoorLawLhLawLzLawLm
import Derived.Test.YthkmeneepkaedaaGreatDoorLawAn
import Derived.Test.YthkmeneepkaedaaGreatDoorLogRITreeHImplRtPrfLsAnMath
import Derived.Test.YthkmeneepkaedaaGreatDoorJdMathAudS
import Derived.Test.YthkmeneepkaedaaGreatDoorJdS
import Derived.Test.YthkmeneepkaedaaGreatDoorJdI
import Derived.Handy
import Derived.WalkSpells
import Derived.OwnWalk
import Derived.Deep.RegionHeld3
import Derived.Deep.Cut
import Derived.Laws.LoneSync
import Derived.WalkMore
namespace Go.Proofs.YthkmeneepkaedaaGreatDoor
open Go.RowKit Go.Lib
set_option linter.unusedVariables false
set_option maxRecDepth 20000

/-- What a jump to a label comes to, n jumps deep. -/
def Fwd (P : Program) (R : Nat → Option Code) (Q : Exit → Act → World → Prop) : Nat → Nat → Act → World → Prop
  | 0, _, _, _ => False
  | n + 1, l, a, w => ∃ r, R l = some r ∧ r.wp P (jumps (Fwd P R Q n) Q) a w
theorem Fwd.go {P : Program} {R : Nat → Option Code} {Q : Exit → Act → World → Prop} {n l : Nat} {r : Code} {a : Act} {w : World} (h : R l = some r) (k : r.wp P (jumps (Fwd P R Q n) Q) a w) : jumps (Fwd P R Q (n + 1)) Q (.goto l) a w := ⟨r, h, k⟩
theorem wp_scope_fwd {P : Program} {a : Act} {w : World} {Q : Exit → Act → World → Prop} {c : Code} (N : Nat) (first : ∀ R : Nat → Option Code, Hid (R = findLabel c) → c.wp P (jumps (Fwd P R Q N) Q) a w) : (Code.scope c).wp P Q a w := by
  intro b k cs
  have key : ∀ n l a w, Fwd P (findLabel c) Q n l a w → ∃ r, findLabel c l = some r ∧ ∃ e a' w', Q e a' w' ∧ Arrives P (lone (b.at a (.code r :: .inScope c :: k)) cs w) b k cs e a' w' := by
    intro n
    induction n with
    | zero => intro l a w h; exact h.elim
    | succ n ih =>
      rintro l a w ⟨r, hr, hwp⟩
      refine ⟨r, hr, ?_⟩
      obtain ⟨e, a₁, w₁, hq, harr⟩ := hwp b (.inScope c :: k) cs
      cases e with
      | normal => exact ⟨.normal, a₁, w₁, hq, Steps.trans harr (.one step_inScope)⟩
      | exit id => exact ⟨.exit id, a₁, w₁, hq, fun k' hk => harr k' (by simp [exitTo, hk])⟩
      | goto l' =>
        obtain ⟨r', hr', e₂, a₂, w₂, hq₂, harr₂⟩ := ih l' a₁ w₁ hq
        exact ⟨e₂, a₂, w₂, hq₂, .of_steps (harr _ (by simp [gotoIn, hr'])) harr₂⟩
      | ret => exact ⟨_, a₁, w₁, hq, harr⟩
      | panic ch => exact ⟨_, a₁, w₁, hq, harr⟩
      | outgrown => exact ⟨_, a₁, w₁, hq, harr⟩
  obtain ⟨e, a₁, w₁, hq, harr⟩ := first _ rfl b (.inScope c :: k) cs
  cases e with
  | normal => exact ⟨.normal, a₁, w₁, hq, .head step_scope (Steps.trans harr (.one step_inScope))⟩
  | exit id => exact ⟨.exit id, a₁, w₁, hq, fun k' hk => .head step_scope (harr k' (by simp [exitTo, hk]))⟩
  | goto l' =>
    obtain ⟨r', hr', e₂, a₂, w₂, hq₂, harr₂⟩ := key _ l' a₁ w₁ hq
    exact ⟨e₂, a₂, w₂, hq₂, .of_steps (.head step_scope (harr _ (by simp [gotoIn, hr']))) harr₂⟩
  | ret => exact ⟨_, a₁, w₁, hq, .of_steps (.one step_scope) harr⟩
  | panic ch => exact ⟨_, a₁, w₁, hq, .of_steps (.one step_scope) harr⟩
  | outgrown => exact ⟨_, a₁, w₁, hq, .of_steps (.one step_scope) harr⟩
theorem jd_kept2 {x z : World} {P : Nat} {k : ByteArray} {s : Int} {r : ByteArray} {row field n m : Int} (h : JdJ x P k s r row field n) (h2 : JdJ z P k s r row field m) (kb : But (fun q => q = P) x z) (b o : Nat) (v : Value) (hc : x.cell? ⟨b, o, none⟩ = some v) (hv : v ≠ .int .i64 n) : z.cell? ⟨b, o, none⟩ = some v := by
  by_cases hb : b = P
  · subst hb
    have h1 := Bxs.cell h o
    have h3 := Bxs.cell h2 o
    rw [hc] at h1
    rw [h3]
    match o, h1 with
    | 0, h1 => exact h1.symm
    | 1, h1 => exact h1.symm
    | 2, h1 => exact h1.symm
    | 3, h1 => exact h1.symm
    | 4, h1 => exact h1.symm
    | 5, h1 => simp at h1; exact absurd h1 hv
    | o + 6, h1 => simp at h1
  · have hg : x.grownBy z (some P) := ⟨kb.os, kb.tape, kb.output, kb.size, fun q hq hne => kb.block q hq (fun e => hne (by rw [e]))⟩
    exact (hg.cell_far ⟨b, o, none⟩ (World.block_lt_of_cell? x _ hc) (by simpa using hb)).trans hc
/-- The world of a judgement: the tables, the answer, the judgement's box. -/
structure VW (w : World) (P E : Nat) (k : ByteArray) (s : Int) (r : ByteArray) (row field : Int) (n : Int) (o : Ans) (p1 : Option Addr) (c1 : Nat) (p2 : Option Addr) (c2 : Nat) (p3 : Option Addr) (c3 : Nat) (p4 : Option Addr) (c4 : Nat) (x : World) : Prop where
  tb : Tabs x
  ld : Laid x
  an : AnIn o p1 c1 p2 c2 p3 c3 p4 c4 x
  bx : Bxs x E 39 #[.string o.l1, .int .i64 o.i1, .int .i64 o.s1, .slice p1 o.p1.length c1, .string o.sh.k, .int .i64 o.sh.at_, .slice p2 o.sh.ns.length c2, .slice p3 o.sh.cs.length c3, .int .i64 o.sh.ix, .string o.sh.s, .string o.sh.v, .string o.l2, .int .i64 o.i2, .int .i64 o.s2, .slice p4 o.p2.length c4]
  jd : JdJ x P k s r row field n
  bt : But (fun q => q = P) w x
theorem VW.step {w x z : World} {P E : Nat} {k : ByteArray} {s : Int} {r : ByteArray} {row field n m : Int} {o : Ans} {p1 : Option Addr} {c1 : Nat} {p2 : Option Addr} {c2 : Nat} {p3 : Option Addr} {c3 : Nat} {p4 : Option Addr} {c4 : Nat} (h : VW w P E k s r row field n o p1 c1 p2 c2 p3 c3 p4 c4 x) (h2 : JdJ z P k s r row field m) (kb : But (fun q => q = P) x z) (hE : E ≠ P) : VW w P E k s r row field m o p1 c1 p2 c2 p3 c3 p4 c4 z := by
  have key := jd_kept2 h.jd h2 kb
  have tx : ∀ (p : Option Addr) (l : List ByteArray), TxtAt x p l → TxtAt z p l := fun p l hp i hi => by
    obtain ⟨b, off, e, h1, h3⟩ := hp i hi
    exact ⟨b, off, e, Nat.lt_of_lt_of_le h1 kb.size, key _ _ _ h3 (by simp)⟩
  exact ⟨⟨Nat.lt_of_lt_of_le h.tb.1 kb.size, fun i hi => key _ _ _ (h.tb.2.1 i hi) (by simp), fun i hi => key _ _ _ (h.tb.2.2 i hi) (by simp)⟩, key _ _ _ h.ld (by simp), ⟨tx _ _ h.an.t1, tx _ _ h.an.t2, tx _ _ h.an.t3, tx _ _ h.an.t4, h.an.m1, h.an.m2, h.an.m3, h.an.m4⟩, h.bx.but kb hE, h2, an_trans h.bt kb⟩
theorem VW.below {w x z : World} {P E : Nat} {k : ByteArray} {s : Int} {r : ByteArray} {row field n : Int} {o : Ans} {p1 : Option Addr} {c1 : Nat} {p2 : Option Addr} {c2 : Nat} {p3 : Option Addr} {c3 : Nat} {p4 : Option Addr} {c4 : Nat} (h : VW w P E k s r row field n o p1 c1 p2 c2 p3 c3 p4 c4 x) (hb : Below x.heap.size x z) (hE : E ≠ P) : VW w P E k s r row field n o p1 c1 p2 c2 p3 c3 p4 c4 z := h.step (h.jd.below hb) (but_of hb) hE
set_option maxHeartbeats 16000000 in
theorem verdictOn_any (P : Nat) (k : ByteArray) (s : Int) (r : ByteArray) (row field : Int) (o : Ans) (p1 : Option Addr) (c1 : Nat) (p2 : Option Addr) (c2 : Nat) (p3 : Option Addr) (c3 : Nat) (p4 : Option Addr) (c4 : Nat) (w : World) (hT : Tabs w) (hg : Laid w) (hJ : JdJ w P k s r row field 0) (hS : -9223372036854775808 ≤ s ∧ s ≤ 9223372036854775807) (hin : AnIn o p1 c1 p2 c2 p3 c3 p4 c4 w) (hbd : AnBd o) (hrt : r.size ≤ 1048576) :
    Calls Tryz.prog 62 #[.pointer (some ⟨P, 0, none⟩), .agg #[.string o.l1, .int .i64 o.i1, .int .i64 o.s1, .slice p1 o.p1.length c1, .string o.sh.k, .int .i64 o.sh.at_, .slice p2 o.sh.ns.length c2, .slice p3 o.sh.cs.length c3, .int .i64 o.sh.ix, .string o.sh.s, .string o.sh.v, .string o.l2, .int .i64 o.i2, .int .i64 o.s2, .slice p4 o.p2.length c4]] w fun e w' => e = .returned (.int .i64 (jdI o.sh.ns.length (stB s r o.l1 o.i1 o.s1 o.p1 1) (stB s r o.l2 o.i2 o.s2 o.p2 2) (noT o.l2) (ntB row field o.l2) (shB field o.sh o.l1))) ∧ But (fun q => q = P) w w' := by
  obtain ⟨W1, hW1⟩ : ∃ W1, W1 = w.alloc (.cells #[.string o.l1, .int .i64 o.i1, .int .i64 o.s1, .slice p1 o.p1.length c1, .string o.sh.k, .int .i64 o.sh.at_, .slice p2 o.sh.ns.length c2, .slice p3 o.sh.cs.length c3, .int .i64 o.sh.ix, .string o.sh.s, .string o.sh.v, .string o.l2, .int .i64 o.i2, .int .i64 o.s2, .slice p4 o.p2.length c4] 39) := ⟨_, rfl⟩
  have HW1 : Hid (W1 = w.alloc (.cells #[.string o.l1, .int .i64 o.i1, .int .i64 o.s1, .slice p1 o.p1.length c1, .string o.sh.k, .int .i64 o.sh.at_, .slice p2 o.sh.ns.length c2, .slice p3 o.sh.cs.length c3, .int .i64 o.sh.ix, .string o.sh.s, .string o.sh.v, .string o.l2, .int .i64 o.i2, .int .i64 o.s2, .slice p4 o.p2.length c4] 39)) := hW1
  have HE : Hid (w.heap.size ≠ P) := fun e => by have := Bxs.lt hJ; omega
  have H1 : Hid (VW w P w.heap.size k s r row field 0 o p1 c1 p2 c2 p3 c3 p4 c4 W1) := by
    have hb : Below w.heap.size w W1 := by rw [hW1]; exact (Below.refl _ _).alloc (Nat.le_refl _) _
    exact ⟨hT.to hb, hg.below hb, hin.below hb, by rw [hW1]; exact Bxs.new _ _ _, hJ.below hb, but_of hb⟩
  have HS1 : Hid (∀ x n, n = 0 ∨ n = 1 → VW w P w.heap.size k s r row field n o p1 c1 p2 c2 p3 c3 p4 c4 x → Calls Tryz.prog 92 #[.pointer (some ⟨P, 0, none⟩), .agg #[.string o.l1, .int .i64 o.i1, .int .i64 o.s1, .slice p1 o.p1.length c1], .int .i64 1] x fun e w' => e = .returned (.bool (stB s r o.l1 o.i1 o.s1 o.p1 1)) ∧ JdJ w' P k s r row field (if noT o.l1 = true then n else n + 1) ∧ But (fun q => q = P) x w') := fun x n hn h => stands_any P k s r row field n hn o.l1 o.i1 o.s1 p1 c1 o.p1 1 x h.tb h.ld h.jd hS h.an.t1 hbd.z1 h.an.m1 hbd.l1 hrt hbd.i1 hbd.s1
  have HS2 : Hid (∀ x n, n = 0 ∨ n = 1 → VW w P w.heap.size k s r row field n o p1 c1 p2 c2 p3 c3 p4 c4 x → Calls Tryz.prog 92 #[.pointer (some ⟨P, 0, none⟩), .agg #[.string o.l2, .int .i64 o.i2, .int .i64 o.s2, .slice p4 o.p2.length c4], .int .i64 2] x fun e w' => e = .returned (.bool (stB s r o.l2 o.i2 o.s2 o.p2 2)) ∧ JdJ w' P k s r row field (if noT o.l2 = true then n else n + 1) ∧ But (fun q => q = P) x w') := fun x n hn h => stands_any P k s r row field n hn o.l2 o.i2 o.s2 p4 c4 o.p2 2 x h.tb h.ld h.jd hS h.an.t4 hbd.z4 h.an.m4 hbd.l2 hrt hbd.i2 hbd.s2
  have HSh : Hid (∀ x n, VW w P w.heap.size k s r row field n o p1 c1 p2 c2 p3 c3 p4 c4 x → Calls Tryz.prog 93 #[.pointer (some ⟨P, 0, none⟩), .agg #[.string o.sh.k, .int .i64 o.sh.at_, .slice p2 o.sh.ns.length c2, .slice p3 o.sh.cs.length c3, .int .i64 o.sh.ix, .string o.sh.s, .string o.sh.v], .agg #[.string o.l1, .int .i64 o.i1, .int .i64 o.s1, .slice p1 o.p1.length c1]] x fun e w' => e = .returned (.bool (shB field o.sh o.l1)) ∧ Below x.heap.size x w') := fun x n h => isShown_any P k s r row field n o p1 c1 p2 c2 p3 c3 p4 c4 x h.tb h.jd h.an hbd
  have HNo : Hid (∀ x n, VW w P w.heap.size k s r row field n o p1 c1 p2 c2 p3 c3 p4 c4 x → Calls Tryz.prog 95 #[.pointer (some ⟨P, 0, none⟩), .agg #[.string o.l2, .int .i64 o.i2, .int .i64 o.s2, .slice p4 o.p2.length c4]] x fun e w' => e = .returned (.bool (ntB row field o.l2)) ∧ Below x.heap.size x w') := fun x n h => isNoted_any P k s r row field n o.l2 o.i2 o.s2 p4 c4 o.p2 x h.ld h.jd hbd.l2
  have HZ : Hid (0 < o.sh.ns.length ∨ ¬ 0 < o.sh.ns.length) := by by_cases h : 0 < o.sh.ns.length; exact .inl h; exact .inr h
  clear hW1 hT hg hJ hS hin hbd hrt
  generalize stB s r o.l1 o.i1 o.s1 o.p1 1 = S1 at *
  generalize stB s r o.l2 o.i2 o.s2 o.p2 2 = S2 at *
  generalize ntB row field o.l2 = NO at *
  generalize shB field o.sh o.l1 = SB at *
  have HN1 : Hid ((if noT o.l1 = true then (0 : Int) else 0 + 1) = 0 ∨ (if noT o.l1 = true then (0 : Int) else 0 + 1) = 1) := by by_cases h : noT o.l1 = true; exact .inl (if_pos h); exact .inr (by rw [if_neg h]; rfl)
  obtain ⟨V, hV⟩ : ∃ V, V = jdI o.sh.ns.length S1 S2 (noT o.l2) NO SB := ⟨_, rfl⟩
  have HV : Hid (V = jdI o.sh.ns.length S1 S2 (noT o.l2) NO SB) := hV
  rw [← hV]
  clear hV
  generalize noT o.l1 = N1 at *
  generalize noT o.l2 = N2 at *
  have hS := HS1.out W1 0 (.inl rfl) H1.out
  go_enter Tryz.func62, Tryz.ntmps62
  go_wp2_with fail
  rw [← HW1.out]
  refine wp_scope_fwd 9 (fun R HR => ?_)
  obtain ⟨r0, r1, r2, r3, r4, r5, r6, r7, r8, r9, r10, r11, r12, r13, r14⟩ := box15 H1.out.bx
  go_wp2_with fail
  go_step3
  refine Fwd.go (n := 8) ((congrFun HR.out 0).trans rfl) ?_
  go_wp2_with fail
  refine hS.mono ?_
  rintro e y1 ⟨rfl, j1, b1⟩
  have H2 : Hid (VW w P w.heap.size k s r row field (if N1 = true then 0 else 0 + 1) o p1 c1 p2 c2 p3 c3 p4 c4 y1) := H1.out.step j1 b1 HE.out
  generalize (if N1 = true then (0 : Int) else 0 + 1) = n1 at *
  clear hS j1 b1 H1 HS1 HW1 r0 r1 r2 r3 r4 r5 r6 r7 r8 r9 r10 r11 r12 r13 r14
  cases S1
  case false =>
    have hv : V = 4 := by rw [HV.out, jdI_1]
    subst hv
    go_wp2_with fail
    go_step3
    refine Fwd.go (n := 7) ((congrFun HR.out 1).trans rfl) ?_
    go_wp2_with fail
    simp only [jumps]
    go_ret
    exact ⟨rfl, H2.out.bt⟩
  obtain ⟨r0, r1, r2, r3, r4, r5, r6, r7, r8, r9, r10, r11, r12, r13, r14⟩ := box15 H2.out.bx
  have hSh := HSh.out y1 _ H2.out
  rcases HZ.out with hn | hn
  case inr =>
    have hn0 : o.sh.ns.length = 0 := by omega
    have dn : ((o.sh.ns.length : Int) == 0) = true := by rw [hn0]; rfl
    clear hSh hn0
    go_wp2_with fail
    go_step3
    refine Fwd.go (n := 7) ((congrFun HR.out 2).trans rfl) ?_
    clear r0 r1 r2 r3 r4 r5 r6 r7 r8 r9 r10 r11 r12 r13 r14
    obtain ⟨r0, r1, r2, r3, r4, r5, r6, r7, r8, r9, r10, r11, r12, r13, r14⟩ := box15 H2.out.bx
    obtain ⟨-, j5, -⟩ := H2.out.jd.six
    have hL := jdLoad_any P n1 y1 j5
    have hS := HS2.out y1 n1 HN1.out H2.out
    go_wp2_with fail
    refine hL.mono ?_
    rintro e _ ⟨rfl, rfl⟩
    clear hL
    go_wp2_with fail
    refine hS.mono ?_
    rintro e z ⟨rfl, jz, bz⟩
    have H7 := H2.out.step jz bz HE.out
    clear hS jz bz j5 r0 r1 r2 r3 r4 r5 r6 r7 r8 r9 r10 r11 r12 r13 r14
    cases S2
    case false =>
      have H8 : Hid (∃ m, VW w P w.heap.size k s r row field (m) o p1 c1 p2 c2 p3 c3 p4 c4 z) := ⟨_, H7⟩
      clear H7
      have hv : V = 4 := by rw [HV.out]; exact jdI_2 _ _ _ _
      subst hv
      go_wp2_with fail
      go_step3
      refine Fwd.go (n := 6) ((congrFun HR.out 1).trans rfl) ?_
      go_wp2_with fail
      simp only [jumps]
      go_ret
      exact ⟨rfl, H8.out.elim fun _ h => h.bt⟩
    cases N2
    case true =>
      have H8 : Hid (VW w P w.heap.size k s r row field (n1) o p1 c1 p2 c2 p3 c3 p4 c4 z) := by rw [if_pos rfl] at H7; exact H7
      clear H7
      obtain ⟨r0, r1, r2, r3, r4, r5, r6, r7, r8, r9, r10, r11, r12, r13, r14⟩ := box15 H8.out.bx
      obtain ⟨-, j5, -⟩ := H8.out.jd.six
      have hL := jdLoad_any P n1 z j5
      have dq : (n1 == n1) = true := by simp
      go_wp2_with fail
      refine hL.mono ?_
      rintro e _ ⟨rfl, rfl⟩
      clear hL
      have hv : V = 3 := by rw [HV.out]; exact jdI_5 hn _ _
      subst hv
      go_wp2_with fail
      simp only [jumps]
      go_ret
      exact ⟨rfl, H8.out.bt⟩
    have H8 : Hid (VW w P w.heap.size k s r row field (n1 + 1) o p1 c1 p2 c2 p3 c3 p4 c4 z) := by rw [if_neg (by decide)] at H7; exact H7
    clear H7
    obtain ⟨r0, r1, r2, r3, r4, r5, r6, r7, r8, r9, r10, r11, r12, r13, r14⟩ := box15 H8.out.bx
    obtain ⟨-, j5, -⟩ := H8.out.jd.six
    have hL := jdLoad_any P (n1 + 1) z j5
    have hQ := HNo.out z _ H8.out
    have dq : (n1 + 1 == n1) = false := beq_eq_false_iff_ne.2 (by omega)
    go_wp2_with fail
    refine hL.mono ?_
    rintro e _ ⟨rfl, rfl⟩
    clear hL
    go_wp2_with fail
    refine hQ.mono ?_
    rintro e z9 ⟨rfl, zz⟩
    have H9 : Hid (VW w P w.heap.size k s r row field (n1 + 1) o p1 c1 p2 c2 p3 c3 p4 c4 z9) := H8.out.below zz HE.out
    clear hQ zz H8 j5 r0 r1 r2 r3 r4 r5 r6 r7 r8 r9 r10 r11 r12 r13 r14
    cases NO
    case false =>
      have hv : V = 4 := by rw [HV.out]; exact jdI_3 _ _
      subst hv
      go_wp2_with fail
      go_step3
      refine Fwd.go (n := 6) ((congrFun HR.out 1).trans rfl) ?_
      go_wp2_with fail
      simp only [jumps]
      go_ret
      exact ⟨rfl, H9.out.bt⟩
    have hv : V = 2 := by rw [HV.out]; exact jdI_6 hn _
    subst hv
    go_wp2_with fail
    simp only [jumps]
    go_ret
    exact ⟨rfl, H9.out.bt⟩
  have dn : ((o.sh.ns.length : Int) == 0) = false := beq_eq_false_iff_ne.2 (by omega)
  go_wp2_with fail
  go_step3
  refine Fwd.go (n := 7) ((congrFun HR.out 3).trans rfl) ?_
  go_wp2_with fail
  refine hSh.mono ?_
  rintro e y2 ⟨rfl, zz⟩
  have H3 : Hid (VW w P w.heap.size k s r row field (n1) o p1 c1 p2 c2 p3 c3 p4 c4 y2) := H2.out.below zz HE.out
  clear hSh zz H2 dn r0 r1 r2 r3 r4 r5 r6 r7 r8 r9 r10 r11 r12 r13 r14
  cases SB
  case false =>
    have hv : V = 4 := by rw [HV.out]; unfold jdI; rw [if_pos rfl, if_pos hn]; rfl
    subst hv
    go_wp2_with fail
    go_step3
    refine Fwd.go (n := 6) ((congrFun HR.out 1).trans rfl) ?_
    go_wp2_with fail
    simp only [jumps]
    go_ret
    exact ⟨rfl, H3.out.bt⟩
  go_wp2_with fail
  go_step3
  refine Fwd.go (n := 6) ((congrFun HR.out 2).trans rfl) ?_
  obtain ⟨r0, r1, r2, r3, r4, r5, r6, r7, r8, r9, r10, r11, r12, r13, r14⟩ := box15 H3.out.bx
  obtain ⟨-, j5, -⟩ := H3.out.jd.six
  have hL := jdLoad_any P n1 y2 j5
  have hS := HS2.out y2 n1 HN1.out H3.out
  go_wp2_with fail
  refine hL.mono ?_
  rintro e _ ⟨rfl, rfl⟩
  clear hL
  go_wp2_with fail
  refine hS.mono ?_
  rintro e z ⟨rfl, jz, bz⟩
  have H7 := H3.out.step jz bz HE.out
  clear hS jz bz j5 r0 r1 r2 r3 r4 r5 r6 r7 r8 r9 r10 r11 r12 r13 r14
  cases S2
  case false =>
    have H8 : Hid (∃ m, VW w P w.heap.size k s r row field (m) o p1 c1 p2 c2 p3 c3 p4 c4 z) := ⟨_, H7⟩
    clear H7
    have hv : V = 4 := by rw [HV.out]; exact jdI_2 _ _ _ _
    subst hv
    go_wp2_with fail
    go_step3
    refine Fwd.go (n := 5) ((congrFun HR.out 1).trans rfl) ?_
    go_wp2_with fail
    simp only [jumps]
    go_ret
    exact ⟨rfl, H8.out.elim fun _ h => h.bt⟩
  cases N2
  case true =>
    have H8 : Hid (VW w P w.heap.size k s r row field (n1) o p1 c1 p2 c2 p3 c3 p4 c4 z) := by rw [if_pos rfl] at H7; exact H7
    clear H7
    obtain ⟨r0, r1, r2, r3, r4, r5, r6, r7, r8, r9, r10, r11, r12, r13, r14⟩ := box15 H8.out.bx
    obtain ⟨-, j5, -⟩ := H8.out.jd.six
    have hL := jdLoad_any P n1 z j5
    have dq : (n1 == n1) = true := by simp
    go_wp2_with fail
    refine hL.mono ?_
    rintro e _ ⟨rfl, rfl⟩
    clear hL
    have hv : V = 1 := by rw [HV.out]; rw [jdI_4 hn]; rfl
    subst hv
    go_wp2_with fail
    simp only [jumps]
    go_ret
    exact ⟨rfl, H8.out.bt⟩
  have H8 : Hid (VW w P w.heap.size k s r row field (n1 + 1) o p1 c1 p2 c2 p3 c3 p4 c4 z) := by rw [if_neg (by decide)] at H7; exact H7
  clear H7
  obtain ⟨r0, r1, r2, r3, r4, r5, r6, r7, r8, r9, r10, r11, r12, r13, r14⟩ := box15 H8.out.bx
  obtain ⟨-, j5, -⟩ := H8.out.jd.six
  have hL := jdLoad_any P (n1 + 1) z j5
  have hQ := HNo.out z _ H8.out
  have dq : (n1 + 1 == n1) = false := beq_eq_false_iff_ne.2 (by omega)
  go_wp2_with fail
  refine hL.mono ?_
  rintro e _ ⟨rfl, rfl⟩
  clear hL
  have hv : V = 4 := by rw [HV.out]; rw [jdI_4 hn]; rfl
  subst hv
  go_wp2_with fail
  go_step3
  refine Fwd.go (n := 5) ((congrFun HR.out 1).trans rfl) ?_
  go_wp2_with fail
  simp only [jumps]
  go_ret
  exact ⟨rfl, H8.out.bt⟩
end Go.Proofs.YthkmeneepkaedaaGreatDoor
